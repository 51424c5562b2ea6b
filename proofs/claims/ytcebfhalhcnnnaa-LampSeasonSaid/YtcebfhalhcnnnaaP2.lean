/-
  A part of the proofs over this seat.
  (The texts KlK4 KlK5, one behind the other.)
-/
import Derived.Test.YtcebfhalhcnnnaaP1
import Derived.Test.YtcebfhalhcnnnaaA0
set_option linter.unusedSimpArgs false
set_option linter.unusedVariables false
set_option linter.unusedSectionVars false
section
namespace Go.Ab.T
set_option maxRecDepth 8000
set_option maxHeartbeats 4000000
def asg70_0 : ACode := (.region [⟨(some 4), none, .new (.agg [(.int .i64 0), (.int .i64 0)]) 2⟩,
    ⟨none, none, .store (.t 4) (.t 7) 2⟩])
def body70_0 : ACode := (.block 1 (.seq (.region [⟨(some 8), none, .load (.t 2) none⟩,
    ⟨(some 9), none, .load (.t 4) (some 2)⟩,
    ⟨(some 10), none, .callz (.t 8) [(.t 9)]⟩,
    ⟨(some 11), none, .addr (.t 1) 8⟩,
    ⟨(some 12), none, .load (.t 11) none⟩,
    ⟨(some 13), none, .bin .leq (.t 10) (.t 12)⟩,
    ⟨(some 14), none, .mov (.t 13)⟩,
    ⟨(some 15), some (14, true), .load (.t 3) none⟩,
    ⟨(some 16), some (14, true), .load (.t 4) (some 2)⟩,
    ⟨(some 17), some (14, true), .callv (.t 15) [(.t 16)]⟩,
    ⟨(some 18), some (14, true), .not (.t 17)⟩,
    ⟨(some 19), none, .pick (.t 14) (.t 18) (.c (.bool false))⟩])
  (.cond (.t 19) (.ret)
  (.skip))))
theorem get_mid (A : List Blk) (b : Blk) (C : List Blk) {i : Nat} (h : i = A.length) : (A ++ b :: C)[i]? = some b := by subst h; simp
theorem set_mid (A : List Blk) (b c : Blk) (C : List Blk) {i : Nat} (h : i = A.length) : (A ++ b :: C).set i c = A ++ c :: C := by subst h; simp
theorem RgEnd_ret {n : Nat} {e : Nat → AV} {Q : Ex → St → Prop} {m : Mem} {env : Nat → AV} {ps : List Nat} {asg body : ACode} {x : Ex} (h : m.blks[n]? = some (.lp env ps asg body false (some x)))
    (hq : Q x ⟨e, { m with blks := m.blks.set n .dead }⟩) : RgEnd n e Q m := by
  unfold RgEnd
  rw [h]
  exact ⟨rfl, hq⟩
theorem YEnd_ret {id : Nat} {K : AV → Mem → Prop} {s : St} {env : Nat → AV} {ps : List Nat} {asg body' : ACode} {r : Bool} {p : Option Ex} (h : s.mem.blks[id]? = some (.lp env ps asg body' r p))
    (hw : K (.bool false) { s.mem with blks := s.mem.blks.set id (.lp env ps asg body' false (some .ret)) }) : YEnd id K .ret s := by
  unfold YEnd
  rw [h]
  exact hw
/-- A function value that yields some lines, as long as its consumer goes on. -/
def Sq (g : FuncId) (cap : List AV) (xs : List Ln) : Prop :=
  ∀ (n id : Nat) (J : List Ln → List Blk → Prop) (S : List Blk → Prop),
  (∀ y ys pre suf (K' : AV → Mem → Prop), y ∈ xs → pre.length = n → J (y :: ys) pre →
     (∀ pre' ext, pre'.length = n → J ys pre' → K' (.bool true) ⟨pre' ++ (suf ++ ext), []⟩) →
     (∀ pre' ext, pre'.length = n → S pre' → K' (.bool false) ⟨pre' ++ (suf ++ ext), []⟩) → WR ft (.y id) [encN y] ⟨pre ++ suf, []⟩ K') →
  ∀ pre suf (K : AV → Mem → Prop), pre.length = n → J xs pre →
   (∀ pre' ext, pre'.length = n → J [] pre' → K (.tup []) ⟨pre' ++ (suf ++ ext), []⟩) →
   (∀ pre' ext, pre'.length = n → S pre' → K (.tup []) ⟨pre' ++ (suf ++ ext), []⟩) →
   WR ft (.f g) (.yld id :: cap) ⟨pre ++ suf, []⟩ K
theorem lines_sq {l : Lm} (hv : LV l) : Sq 71 [.pv (encL l) 0] (linM l) := by
  intro n id J S step pre suf K hpre hJ hK hS
  rw [WR_f ft71 rfl]
  simp only [c71, r71]
  have u0 := hv.u0; have u2 := hv.u2; have d0 := hv.d0; have d2 := hv.d2
  simp only [go_sem, Nat.reduceEqDiff, Nat.reduceAdd, Nat.reduceLT, Nat.reduceLeDiff, reduceIte]
  refine WL_inv (α := Nat × Int) (fun q e mm => e 0 = .yld id ∧ e 1 = .pv (encL l) 0 ∧ e 3 = I64 q.2 ∧ q.1 = (l.fu.hi + 1 - q.2).toNat ∧ l.fu.lo ≤ q.2 ∧ ∃ pre ext, mm = ⟨pre ++ (suf ++ ext), []⟩ ∧ pre.length = n ∧ J ((rgI q.2 l.fu.hi).flatMap (linF l.fd)) pre) (fun q => q.1) ((l.fu.hi + 1 - l.fu.lo).toNat, l.fu.lo) ?_ ?_
  · simp only [go_sem, Nat.reduceEqDiff, Nat.reduceAdd, Nat.reduceLT, Nat.reduceLeDiff, reduceIte]
    exact ⟨trivial, trivial, trivial, trivial, by omega, pre, [], by rw [List.append_nil], hpre, hJ⟩
  rintro ⟨k, a⟩ e m ⟨g0, g1, g3, hk, a0, pre, ext, rfl, hpre, hJ⟩
  dsimp only at g3 hk a0 hJ
  cases ha : decide (a ≤ l.fu.hi)
  · rw [rgI_nil (by have := of_decide_eq_false ha; omega)] at hJ
    simp only [go_sem, Nat.reduceEqDiff, Nat.reduceAdd, Nat.reduceLT, Nat.reduceLeDiff, reduceIte, g0, g1, g3, ha]
    exact hK pre ext hpre hJ
  have ha' := of_decide_eq_true ha
  rw [rgI_cons ha', List.flatMap_cons] at hJ
  simp only [go_sem, Nat.reduceEqDiff, Nat.reduceAdd, Nat.reduceLT, Nat.reduceLeDiff, reduceIte, g0, g1, g3, ha]
  refine WL_inv (α := Nat × Int) (fun q e mm => e 0 = .yld id ∧ e 1 = .pv (encL l) 0 ∧ e 3 = I64 a ∧ e 4 = I64 q.2 ∧ q.1 = (l.fd.hi + 1 - q.2).toNat ∧ l.fd.lo ≤ q.2 ∧ ∃ pre ext, mm = ⟨pre ++ (suf ++ ext), []⟩ ∧ pre.length = n ∧ J ((rgI q.2 l.fd.hi).map (fun b => ⟨a, b⟩) ++ (rgI (a + 1) l.fu.hi).flatMap (linF l.fd)) pre) (fun q => q.1) ((l.fd.hi + 1 - l.fd.lo).toNat, l.fd.lo) ?_ ?_
  · simp only [go_sem, Nat.reduceEqDiff, Nat.reduceAdd, Nat.reduceLT, Nat.reduceLeDiff, reduceIte, g0, g1, g3]
    exact ⟨trivial, trivial, trivial, trivial, trivial, by omega, pre, ext, rfl, hpre, hJ⟩
  clear hJ hpre g0 g1 g3
  rintro ⟨k2, b⟩ e m ⟨g0, g1, g3, g4, hk2, b0, pre, ext, rfl, hpre, hJ⟩
  dsimp only at g4 hk2 b0 hJ
  cases hb : decide (b ≤ l.fd.hi)
  · rw [rgI_nil (by have := of_decide_eq_false hb; omega)] at hJ
    simp only [go_sem, Nat.reduceEqDiff, Nat.reduceAdd, Nat.reduceLT, Nat.reduceLeDiff, reduceIte, g0, g1, g3, g4, hb, wrap_i1 a (by omega) (by omega)]
    refine Nx_of (k - 1, a + 1) (by show k - 1 < k; omega) ?_
    simp only [go_sem, Nat.reduceEqDiff, Nat.reduceAdd, Nat.reduceLT, Nat.reduceLeDiff, reduceIte, g0, g1]
    exact ⟨trivial, trivial, trivial, by omega, by omega, pre, ext, rfl, hpre, hJ⟩
  have hb' := of_decide_eq_true hb
  rw [rgI_cons hb', List.map_cons, List.cons_append] at hJ
  simp only [go_sem, Nat.reduceEqDiff, Nat.reduceAdd, Nat.reduceLT, Nat.reduceLeDiff, reduceIte, g0, g1, g3, g4, hb, NEta']
  refine step ⟨a, b⟩ _ pre (suf ++ ext) _ (mem_linM.2 ⟨inR_iff.2 ⟨a0, ha'⟩, inR_iff.2 ⟨b0, hb'⟩⟩) hpre hJ ?_ ?_
  · intro pre' ext' hl hj
    simp only [go_sem, Nat.reduceEqDiff, Nat.reduceAdd, Nat.reduceLT, Nat.reduceLeDiff, reduceIte, g0, g1, g3, g4, wrap_i1 b (by omega) (by omega)]
    refine Nx_of (k2 - 1, b + 1) (by show k2 - 1 < k2; omega) ?_
    simp only [go_sem, Nat.reduceEqDiff, Nat.reduceAdd, Nat.reduceLT, Nat.reduceLeDiff, reduceIte, g0, g1, g3]
    exact ⟨trivial, trivial, trivial, trivial, by omega, by omega, pre', ext ++ ext', by rw [List.append_assoc], hl, hj⟩
  · intro pre' ext' hl hs
    simp only [go_sem, Nat.reduceEqDiff, Nat.reduceAdd, Nat.reduceLT, Nat.reduceLeDiff, reduceIte, g0, g1, g3, g4]
    rw [List.append_assoc]
    exact hS pre' (ext ++ ext') hl hs
theorem truths_sq {l : Lm} (hv : LV l) : Sq 70 [.pv (encL l) 0, .pv (cW l.gs) 0] (truM l) := by
  intro n id J S step pre suf K hpre hJ hK hS
  rw [WR_f ft70 rfl]
  simp only [c70, r70]
  have hgl := hv.gl
  simp only [go_sem, Nat.reduceEqDiff, Nat.reduceAdd, Nat.reduceLT, Nat.reduceLeDiff, reduceIte, WB46, WVH_eq (lines_ok l), true_and]
  refine WL_range_of (g := 71) (first := []) (cap := [.pv (encL l) 0]) rfl ?_
  simp only [go_sem, Nat.reduceEqDiff, Nat.reduceAdd, Nat.reduceLT, Nat.reduceLeDiff, reduceIte]
  have hinit : ∀ (env0 : Nat → AV) (q : Nat), q = n + suf.length → env0 1 = .pv (encL l) 0 → env0 2 = .pv (cW l.gs) 0 → env0 3 = .ptr q 0 0 → ∀ K' : AV → Mem → Prop,
      (∀ pre' ext, pre'.length = n → J [] pre' → K' (.tup []) ⟨pre' ++ (suf ++ (Blk.live [.yld id] 1 :: .lp env0 [7] asg70_0 body70_0 true none :: ext)), []⟩) →
      (∀ pre' ext, pre'.length = n → S pre' → K' (.tup []) ⟨pre' ++ (suf ++ (Blk.live [.yld id] 1 :: .lp env0 [7] asg70_0 body70_0 false (some .ret) :: ext)), []⟩) →
      WR ft (.f 71) [.yld (q + 1), .pv (encL l) 0] ⟨pre ++ suf ++ [Blk.live [.yld id] 1] ++ [.lp env0 [7] asg70_0 body70_0 true none], []⟩ K' := by
    intro env0 q hq v1 v2 v3 K' hK' hS'
    rw [show pre ++ suf ++ [Blk.live [.yld id] 1] ++ [.lp env0 [7] asg70_0 body70_0 true none] = pre ++ (suf ++ [(Blk.live [.yld id] 1), (Blk.lp env0 [7] asg70_0 body70_0 true none)]) ++ [] by simp]
    refine lines_sq hv (q + 2) (q + 1) (fun ys pre'' => ∃ pre1, pre'' = pre1 ++ (suf ++ [(Blk.live [.yld id] 1), (Blk.lp env0 [7] asg70_0 body70_0 true none)]) ∧ pre1.length = n ∧ J (ys.filter (isT l)) pre1) (fun pre'' => ∃ pre1, pre'' = pre1 ++ (suf ++ [(Blk.live [.yld id] 1), (Blk.lp env0 [7] asg70_0 body70_0 false (some .ret))]) ∧ pre1.length = n ∧ S pre1) ?_ _ [] K' (by simp; omega) ⟨pre, rfl, hpre, hJ⟩ ?_ ?_
    · rintro y ys pre'' suf2 K2 hy hlen ⟨pre1, rfl, hpre1, hj⟩ hk2 hs2
      have hyN := linM_NV hv hy
      obtain ⟨bl, hbl⟩ : ∃ bl, bl = pre1 ++ (suf ++ [(Blk.live [.yld id] 1), (Blk.lp env0 [7] asg70_0 body70_0 true none)]) ++ suf2 := ⟨_, rfl⟩
      rw [← hbl]
      have hlp : bl[q + 1]? = some (Blk.lp env0 [7] asg70_0 body70_0 true none) := by
        rw [hbl, show pre1 ++ (suf ++ [(Blk.live [.yld id] 1), (Blk.lp env0 [7] asg70_0 body70_0 true none)]) ++ suf2 = (pre1 ++ (suf ++ [(Blk.live [.yld id] 1)])) ++ (Blk.lp env0 [7] asg70_0 body70_0 true none) :: suf2 by simp]
        exact get_mid _ _ _ (by simp; omega)
      have hset : bl.set (q + 1) (Blk.lp env0 [7] asg70_0 body70_0 false none) = pre1 ++ (suf ++ ((Blk.live [.yld id] 1) :: (Blk.lp env0 [7] asg70_0 body70_0 false none) :: suf2)) := by
        rw [hbl, show pre1 ++ (suf ++ [(Blk.live [.yld id] 1), (Blk.lp env0 [7] asg70_0 body70_0 true none)]) ++ suf2 = (pre1 ++ (suf ++ [(Blk.live [.yld id] 1)])) ++ (Blk.lp env0 [7] asg70_0 body70_0 true none) :: suf2 by simp, set_mid _ _ _ _ (by simp; omega)]
        simp
      refine WR_yld (ft := ft) hlp rfl ?_
      have hql := (List.getElem?_eq_some_iff.1 hlp).1
      simp only [go_sem, Nat.reduceEqDiff, Nat.reduceAdd, Nat.reduceLT, Nat.reduceLeDiff, reduceIte, asg70_0, puts, NCells, NEta]
      refine YBegin_lp (ft := ft) (show (bl ++ [Blk.live [encN y] 2])[q + 1]? = some (Blk.lp env0 [7] asg70_0 body70_0 true none) by rw [List.getElem?_append_left hql]; exact hlp) ?_
      dsimp only
      rw [List.set_append_left _ _ hql]
      have hlenr : bl.length = n + suf.length + 2 + suf2.length := by rw [hbl]; simp; omega
      show W ft body70_0 ⟨_, ⟨bl.set (q + 1) (Blk.lp env0 [7] asg70_0 body70_0 false none) ++ [.live [encN y] 2], []⟩⟩ _
      obtain ⟨bl2, hbl2⟩ : ∃ b, b = bl.set (q + 1) (Blk.lp env0 [7] asg70_0 body70_0 false none) := ⟨_, rfl⟩
      rw [← hbl2] at hset ⊢
      have hl2 : bl2.length = bl.length := by rw [hbl2]; exact List.length_set
      clear hbl2
      generalize hr : bl.length = r at *
      have g1 : (bl2 ++ [Blk.live [encN y] 2])[r]? = some (.live [encN y] 2) := by rw [← hl2]; exact get_last _ _
      have g3 : (bl2 ++ [Blk.live [encN y] 2])[q]? = some (.live [.yld id] 1) := by
        rw [hset, show pre1 ++ (suf ++ ((Blk.live [.yld id] 1) :: (Blk.lp env0 [7] asg70_0 body70_0 false none) :: suf2)) ++ [Blk.live [encN y] 2] = (pre1 ++ suf) ++ (Blk.live [.yld id] 1) :: ((Blk.lp env0 [7] asg70_0 body70_0 false none) :: suf2 ++ [Blk.live [encN y] 2]) by simp]
        exact get_mid _ _ _ (by simp; omega)
      have hbl3 : bl2 ++ [Blk.live [encN y] 2] = pre1 ++ (suf ++ ((Blk.live [.yld id] 1) :: (Blk.lp env0 [7] asg70_0 body70_0 false none) :: (suf2 ++ [Blk.live [encN y] 2]))) := by rw [hset]; simp
      have m1 : ∀ (p : List Blk) (x : List Blk), p.length = n → (p ++ (suf ++ ((Blk.live [.yld id] 1) :: (Blk.lp env0 [7] asg70_0 body70_0 false none) :: x)))[q + 1]? = some (Blk.lp env0 [7] asg70_0 body70_0 false none) := fun p x hp => by
        rw [show p ++ (suf ++ ((Blk.live [.yld id] 1) :: (Blk.lp env0 [7] asg70_0 body70_0 false none) :: x)) = (p ++ (suf ++ [(Blk.live [.yld id] 1)])) ++ (Blk.lp env0 [7] asg70_0 body70_0 false none) :: x by simp]
        exact get_mid _ _ _ (by simp; omega)
      have m2 : ∀ (p : List Blk) (x : List Blk) (c : Blk), p.length = n → (p ++ (suf ++ ((Blk.live [.yld id] 1) :: (Blk.lp env0 [7] asg70_0 body70_0 false none) :: x))).set (q + 1) c = p ++ (suf ++ [(Blk.live [.yld id] 1), c]) ++ x := fun p x c hp => by
        rw [show p ++ (suf ++ ((Blk.live [.yld id] 1) :: (Blk.lp env0 [7] asg70_0 body70_0 false none) :: x)) = (p ++ (suf ++ [(Blk.live [.yld id] 1)])) ++ (Blk.lp env0 [7] asg70_0 body70_0 false none) :: x by simp, set_mid _ _ _ _ (by simp; omega)]
        simp
      cases ht : isT l y
      · rw [List.filter_cons, ht, if_neg (by decide)] at hj
        unfold isT at ht
        simp only [go_sem, Nat.reduceEqDiff, Nat.reduceAdd, Nat.reduceLT, Nat.reduceLeDiff, reduceIte, body70_0, v1, v2, v3, g1, LCells, NEta, cW_appz hyN l.gs (by omega) (fun g hg => ⟨(hv.gg g hg).1, by have := (hv.gg g hg).2.1; omega⟩), ht]
        refine YEnd_lp (by rw [hbl3]; exact m1 _ _ hpre1) ?_
        dsimp only
        rw [hbl3, m2 _ _ _ hpre1]
        exact hk2 _ [Blk.live [encN y] 2] (by simp; omega) ⟨pre1, rfl, hpre1, hj⟩
      · have hyT : y ∈ truM l := List.mem_filter.2 ⟨hy, ht⟩
        rw [List.filter_cons, ht, if_pos rfl] at hj
        unfold isT at ht
        simp only [go_sem, Nat.reduceEqDiff, Nat.reduceAdd, Nat.reduceLT, Nat.reduceLeDiff, reduceIte, body70_0, v1, v2, v3, g1, g3, LCells, NEta, cW_appz hyN l.gs (by omega) (fun g hg => ⟨(hv.gg g hg).1, by have := (hv.gg g hg).2.1; omega⟩), ht]
        rw [hbl3]
        refine step y _ pre1 _ _ hyT hpre1 hj ?_ ?_
        · intro pre' ext hl hj'
          simp only [go_sem, Nat.reduceEqDiff, Nat.reduceAdd, Nat.reduceLT, Nat.reduceLeDiff, reduceIte]
          refine YEnd_lp (by simpa using m1 pre' (suf2 ++ ([Blk.live [encN y] 2] ++ ext)) hl) ?_
          dsimp only
          rw [show pre' ++ (suf ++ (Blk.live [.yld id] 1 :: Blk.lp env0 [7] asg70_0 body70_0 false none :: (suf2 ++ [Blk.live [encN y] 2])) ++ ext) = pre' ++ (suf ++ (Blk.live [.yld id] 1 :: Blk.lp env0 [7] asg70_0 body70_0 false none :: (suf2 ++ ([Blk.live [encN y] 2] ++ ext)))) by simp, m2 _ _ _ hl]
          exact hk2 _ ([Blk.live [encN y] 2] ++ ext) (by simp; omega) ⟨pre', rfl, hl, hj'⟩
        · intro pre' ext hl hs
          simp only [go_sem, Nat.reduceEqDiff, Nat.reduceAdd, Nat.reduceLT, Nat.reduceLeDiff, reduceIte]
          refine YEnd_ret (by simpa using m1 pre' (suf2 ++ ([Blk.live [encN y] 2] ++ ext)) hl) ?_
          dsimp only
          rw [show pre' ++ (suf ++ (Blk.live [.yld id] 1 :: Blk.lp env0 [7] asg70_0 body70_0 false none :: (suf2 ++ [Blk.live [encN y] 2])) ++ ext) = pre' ++ (suf ++ (Blk.live [.yld id] 1 :: Blk.lp env0 [7] asg70_0 body70_0 false none :: (suf2 ++ ([Blk.live [encN y] 2] ++ ext)))) by simp, m2 _ _ _ hl]
          exact hs2 _ ([Blk.live [encN y] 2] ++ ext) (by simp; omega) ⟨pre', rfl, hl, hs⟩
    · rintro pre'' ext hlen ⟨pre1, rfl, hl, hj⟩
      rw [show pre1 ++ (suf ++ [(Blk.live [.yld id] 1), (Blk.lp env0 [7] asg70_0 body70_0 true none)]) ++ ([] ++ ext) = pre1 ++ (suf ++ ((Blk.live [.yld id] 1) :: (Blk.lp env0 [7] asg70_0 body70_0 true none) :: ext)) by simp]
      exact hK' pre1 ext hl hj
    · rintro pre'' ext hlen ⟨pre1, rfl, hl, hs⟩
      rw [show pre1 ++ (suf ++ [(Blk.live [.yld id] 1), (Blk.lp env0 [7] asg70_0 body70_0 false (some .ret))]) ++ ([] ++ ext) = pre1 ++ (suf ++ ((Blk.live [.yld id] 1) :: (Blk.lp env0 [7] asg70_0 body70_0 false (some .ret)) :: ext)) by simp]
      exact hS' pre1 ext hl hs
  have hql2 : (pre ++ suf ++ [Blk.live [.yld id] 1]).length = n + suf.length + 1 := by simp; omega
  have hql : (pre ++ suf).length = n + suf.length := by simp; omega
  rw [hql2]
  have gm : ∀ (p : List Blk) (b c : Blk) (x : List Blk), p.length = n → (p ++ (suf ++ (b :: c :: x)))[n + suf.length + 1]? = some c := fun p b c x hp => by
    rw [show p ++ (suf ++ (b :: c :: x)) = (p ++ (suf ++ [b])) ++ c :: x by simp]
    exact get_mid _ _ _ (by simp; omega)
  have sm : ∀ (p : List Blk) (b c d : Blk) (x : List Blk), p.length = n → (p ++ (suf ++ (b :: c :: x))).set (n + suf.length + 1) d = p ++ (suf ++ (b :: d :: x)) := fun p b c d x hp => by
    rw [show p ++ (suf ++ (b :: c :: x)) = (p ++ (suf ++ [b])) ++ c :: x by simp, set_mid _ _ _ _ (by simp; omega)]
    simp
  refine hinit _ (n + suf.length) rfl (by simp only [go_sem, Nat.reduceEqDiff, Nat.reduceAdd, Nat.reduceLT, Nat.reduceLeDiff, reduceIte]) (by simp only [go_sem, Nat.reduceEqDiff, Nat.reduceAdd, Nat.reduceLT, Nat.reduceLeDiff, reduceIte]) (by simp only [go_sem, Nat.reduceEqDiff, Nat.reduceAdd, Nat.reduceLT, Nat.reduceLeDiff, reduceIte, hql]) _ (fun pre' ext hl hj => ?_) (fun pre' ext hl hs => ?_)
  · refine RgEnd_lp (gm _ _ _ _ hl) ?_
    rw [sm _ _ _ _ _ hl]
    simp only [go_sem, Nat.reduceEqDiff, Nat.reduceAdd, Nat.reduceLT, Nat.reduceLeDiff, reduceIte]
    exact hK pre' _ hl hj
  · refine RgEnd_ret (gm _ _ _ _ hl) ?_
    rw [sm _ _ _ _ _ hl]
    simp only [go_sem, Nat.reduceEqDiff, Nat.reduceAdd, Nat.reduceLT, Nat.reduceLeDiff, reduceIte]
    exact hS pre' _ hl hs
end Go.Ab.T
end

section
namespace Go.Ab.T
set_option maxRecDepth 8000
set_option maxHeartbeats 4000000
def asg45_0 : ACode := (.region [⟨(some 6), none, .new (.agg [(.int .i64 0), (.int .i64 0)]) 2⟩,
    ⟨none, none, .store (.t 6) (.t 9) 2⟩])
def body45_0 : ACode := (.block 1 (.seq (.region [⟨(some 10), none, .load (.t 3) none⟩,
    ⟨(some 11), none, .load (.t 6) (some 2)⟩,
    ⟨(some 12), none, .callv (.t 10) [(.t 11)]⟩,
    ⟨(some 7), none, .mov (.t 12)⟩])
  (.seq (.seq (.region [⟨(some 13), none, .load (.t 5) none⟩,
    ⟨(some 14), none, .not (.t 13)⟩])
  (.cond (.t 14) (.region [⟨(some 15), none, .mov (.t 7)⟩,
    ⟨(some 16), none, .mov (.t 7)⟩,
    ⟨(some 17), none, .build [(.int .i64 0), (.int .i64 0)] [(0, 1, (.t 15)), (1, 1, (.t 16))]⟩,
    ⟨none, none, .store (.t 4) (.t 17) 2⟩,
    ⟨none, none, .store (.t 5) (.c (.bool true)) 1⟩])
  (.skip)))
  (.region [⟨(some 18), none, .addr (.t 4) 0⟩,
    ⟨(some 19), none, .load (.t 18) none⟩,
    ⟨(some 20), none, .mov (.t 7)⟩,
    ⟨(some 21), none, .mnx false (.t 19) (.t 20)⟩,
    ⟨(some 22), none, .addr (.t 4) 1⟩,
    ⟨(some 23), none, .load (.t 22) none⟩,
    ⟨(some 24), none, .mov (.t 7)⟩,
    ⟨(some 25), none, .mnx true (.t 23) (.t 24)⟩,
    ⟨(some 26), none, .addr (.t 4) 0⟩,
    ⟨none, none, .store (.t 26) (.t 21) 1⟩,
    ⟨(some 27), none, .addr (.t 4) 1⟩,
    ⟨none, none, .store (.t 27) (.t 25) 1⟩]))))
def asg51_0 : ACode := (.region [⟨(some 5), none, .new (.agg [(.int .i64 0), (.int .i64 0)]) 2⟩,
    ⟨none, none, .store (.t 5) (.t 8) 2⟩])
def body51_0 : ACode := (.block 1 (.seq (.region [⟨(some 9), none, .load (.t 3) none⟩,
    ⟨(some 10), none, .load (.t 5) (some 2)⟩,
    ⟨(some 11), none, .callv (.t 9) [(.t 10)]⟩])
  (.cond (.t 11) (.seq (.region [⟨none, none, .store (.t 4) (.c (.bool true)) 1⟩])
  (.ret))
  (.skip))))
def asg15_0 : ACode := (.skip)
def body15_0 : ACode := (.block 1 (.region [⟨(some 14), none, .load (.t 5) none⟩,
    ⟨(some 15), none, .bin .add (.t 14) (.c (.int .i64 1))⟩,
    ⟨none, none, .store (.t 5) (.t 15) 1⟩]))
/-- The least and the greatest number, and whether there is one. -/
def bndF (num : Ln → Int) : Sp × Bool → List Ln → Sp × Bool
  | p, [] => p
  | p, x :: r => bndF num (if p.2 = true then ⟨min p.1.lo (num x), max p.1.hi (num x)⟩ else ⟨min (num x) (num x), max (num x) (num x)⟩, true) r
def bndM (num : Ln → Int) (xs : List Ln) : Sp × Bool := bndF num (⟨0, 0⟩, false) xs
theorem wS2 (s : Sp) (a b : AV) : writeCells (encS s) 0 [a, b] = some (.agg [a, b]) := rfl
theorem wS0 (s : Sp) (a : AV) : writeCells (encS s) 0 [a] = some (.agg [a, I64 s.hi]) := rfl
theorem wS1 (s : Sp) (a : AV) : writeCells (encS s) 1 [a] = some (.agg [I64 s.lo, a]) := rfl
attribute [go_sem] wS2 wS0 wS1
theorem resOf_cc (s : St) (n m : Nat) (sz tz : Option Nat) : resOf s [.cell n sz, .cell m tz] = (loadAt s.mem (s.env n) sz).bind fun v => (loadAt s.mem (s.env m) tz).map fun w => .tup [v, w] := by
  simp only [resOf, resAll, resOne]
  cases loadAt s.mem (s.env n) sz with
  | none => rfl
  | some v => cases loadAt s.mem (s.env m) tz <;> rfl
attribute [go_sem] resOf_cc Option.bind_some
theorem SEta' (a b : Int) : AV.agg [I64 a, I64 b] = encS ⟨a, b⟩ := rfl
theorem bounds_ok {g : FuncId} {cap : List AV} {xs : List Ln} (hs : Sq g cap xs) (f : AV) (num : Ln → Int) (hc : f.cells = [f]) (hso : f.solid = true) (hag : f.isAgg = false)
    (hf : ∀ x ∈ xs, ∀ (st : St) (K : AV → St → Prop), @WAH ft f [encN x] st ⟨K⟩ = K (I64 (num x)) st) : RV ft 45 [.fn g [] cap, f] (.tup [encS (bndM num xs).1, .bool (bndM num xs).2]) := by
  refine RV_of ft45 rfl ?_
  simp only [c45, r45]
  simp only [go_sem, Nat.reduceEqDiff, Nat.reduceAdd, Nat.reduceLT, Nat.reduceLeDiff, reduceIte, hc, hso, SEta']
  refine WL_range_of (g := g) (first := []) (cap := cap) rfl ?_
  simp only [go_sem, Nat.reduceEqDiff, Nat.reduceAdd, Nat.reduceLT, Nat.reduceLeDiff, reduceIte]
  have hinit : ∀ env0 : Nat → AV, env0 3 = .ptr 0 0 0 → env0 4 = .ptr 1 0 0 → env0 5 = .ptr 2 0 0 → ∀ K : AV → Mem → Prop,
      (∀ ext, K (.tup []) ⟨[.live [f] 1, .live [encS (bndM num xs).1] 2, .live [.bool (bndM num xs).2] 1, .lp env0 [9] asg45_0 body45_0 true none] ++ ext, []⟩) →
      WR ft (.f g) (.yld 3 :: cap) ⟨[.live [f] 1, .live [encS ⟨0, 0⟩] 2, .live [.bool false] 1, .lp env0 [9] asg45_0 body45_0 true none], []⟩ K := by
    intro env0 v3 v4 v5 K hK
    refine hs 4 3 (fun ys pre => ∃ p : Sp × Bool, pre = [.live [f] 1, .live [encS p.1] 2, .live [.bool p.2] 1, .lp env0 [9] asg45_0 body45_0 true none] ∧ bndF num p ys = bndM num xs) (fun _ => False) ?_ _ [] K rfl ⟨(⟨0, 0⟩, false), rfl, rfl⟩ ?_ ?_
    · rintro y ys pre suf K' hy _ ⟨⟨s, b⟩, rfl, hp⟩ hk _
      have hfy := hf y hy
      refine WR_yld (ft := ft) rfl rfl ?_
      simp only [go_sem, Nat.reduceEqDiff, Nat.reduceAdd, Nat.reduceLT, Nat.reduceLeDiff, reduceIte, asg45_0, puts, NCells, NEta]
      refine YBegin_lp (ft := ft) rfl ?_
      cases b
      · simp only [go_sem, Nat.reduceEqDiff, Nat.reduceAdd, Nat.reduceLT, Nat.reduceLeDiff, reduceIte, body45_0, v3, v4, v5, hfy, NEta, hc, show AV.agg [I64 (num y), I64 (num y)] = encS ⟨num y, num y⟩ from rfl, show ((2 : Nat) != 1) = true from rfl]
        refine YEnd_lp rfl ?_
        exact hk _ [Blk.live [encN y] 2] rfl ⟨(⟨min (num y) (num y), max (num y) (num y)⟩, true), rfl, by rw [← hp]; rfl⟩
      · simp only [go_sem, Nat.reduceEqDiff, Nat.reduceAdd, Nat.reduceLT, Nat.reduceLeDiff, reduceIte, body45_0, v3, v4, v5, hfy, NEta, hc, show ((2 : Nat) != 1) = true from rfl]
        refine YEnd_lp rfl ?_
        exact hk _ [Blk.live [encN y] 2] rfl ⟨(⟨min s.lo (num y), max s.hi (num y)⟩, true), rfl, by rw [← hp]; rfl⟩
    · rintro pre ext _ ⟨p, rfl, hp⟩
      have hp' : p = bndM num xs := hp
      subst hp'
      exact hK ext
    · rintro pre ext _ h; exact h.elim
  refine hinit _ (by simp only [go_sem, Nat.reduceEqDiff, Nat.reduceAdd, Nat.reduceLT, Nat.reduceLeDiff, reduceIte]) (by simp only [go_sem, Nat.reduceEqDiff, Nat.reduceAdd, Nat.reduceLT, Nat.reduceLeDiff, reduceIte]) (by simp only [go_sem, Nat.reduceEqDiff, Nat.reduceAdd, Nat.reduceLT, Nat.reduceLeDiff, reduceIte]) _ fun ext => ?_
  refine RgEnd_lp rfl ?_
  simp only [go_sem, Nat.reduceEqDiff, Nat.reduceAdd, Nat.reduceLT, Nat.reduceLeDiff, reduceIte, SCells, show ((2 : Nat) != 1) = true from rfl]
theorem can_ok {l : Lm} (hv : LV l) (f : AV) (p : Ln → Bool) (hc : f.cells = [f]) (hso : f.solid = true) (hag : f.isAgg = false)
    (hf : ∀ x ∈ truM l, ∀ (st : St) (K : AV → St → Prop), @WAH ft f [encN x] st ⟨K⟩ = K (.bool (p x)) st) : RV ft 51 [encL l, f] (.bool ((truM l).any p)) := by
  refine RV_of ft51 rfl ?_
  simp only [c51, r51]
  simp only [go_sem, Nat.reduceEqDiff, Nat.reduceAdd, Nat.reduceLT, Nat.reduceLeDiff, reduceIte, hc, hso, WB43, WVH_eq (truths_ok l), true_and]
  refine WL_range_of (g := 70) (first := []) (cap := [.pv (encL l) 0, .pv (cW l.gs) 0]) rfl ?_
  simp only [go_sem, Nat.reduceEqDiff, Nat.reduceAdd, Nat.reduceLT, Nat.reduceLeDiff, reduceIte]
  have hinit : ∀ env0 : Nat → AV, env0 3 = .ptr 1 0 0 → env0 4 = .ptr 2 0 0 → ∀ K : AV → Mem → Prop,
      ((truM l).any p = false → ∀ ext, K (.tup []) ⟨[.live [encL l] 9, .live [f] 1, .live [.bool false] 1, .lp env0 [8] asg51_0 body51_0 true none] ++ ext, []⟩) →
      ((truM l).any p = true → ∀ ext, K (.tup []) ⟨[.live [encL l] 9, .live [f] 1, .live [.bool true] 1, .lp env0 [8] asg51_0 body51_0 false (some .ret)] ++ ext, []⟩) →
      WR ft (.f 70) [.yld 3, .pv (encL l) 0, .pv (cW l.gs) 0] ⟨[.live [encL l] 9, .live [f] 1, .live [.bool false] 1, .lp env0 [8] asg51_0 body51_0 true none], []⟩ K := by
    intro env0 v3 v4 K hK hK2
    refine truths_sq hv 4 3 (fun ys pre => pre = [.live [encL l] 9, .live [f] 1, .live [.bool false] 1, .lp env0 [8] asg51_0 body51_0 true none] ∧ ys.any p = (truM l).any p) (fun pre => pre = [.live [encL l] 9, .live [f] 1, .live [.bool true] 1, .lp env0 [8] asg51_0 body51_0 false (some .ret)] ∧ (truM l).any p = true) ?_ _ [] K rfl ⟨rfl, rfl⟩ ?_ ?_
    · rintro y ys pre suf K' hy _ ⟨rfl, hp⟩ hk hk2
      have hfy := hf y hy
      rw [List.any_cons] at hp
      refine WR_yld (ft := ft) rfl rfl ?_
      simp only [go_sem, Nat.reduceEqDiff, Nat.reduceAdd, Nat.reduceLT, Nat.reduceLeDiff, reduceIte, asg51_0, puts, NCells, NEta]
      refine YBegin_lp (ft := ft) rfl ?_
      cases hpy : p y
      · rw [hpy] at hfy hp
        simp only [go_sem, Nat.reduceEqDiff, Nat.reduceAdd, Nat.reduceLT, Nat.reduceLeDiff, reduceIte, body51_0, v3, v4, hfy, NEta, hc]
        refine YEnd_lp rfl ?_
        exact hk _ [Blk.live [encN y] 2] rfl ⟨rfl, by rw [← hp]; rfl⟩
      · rw [hpy] at hfy hp
        simp only [go_sem, Nat.reduceEqDiff, Nat.reduceAdd, Nat.reduceLT, Nat.reduceLeDiff, reduceIte, body51_0, v3, v4, hfy, NEta, hc]
        refine YEnd_ret rfl ?_
        exact hk2 _ [Blk.live [encN y] 2] rfl ⟨rfl, by rw [← hp]; rfl⟩
    · rintro pre ext _ ⟨rfl, hp⟩
      exact hK hp.symm ext
    · rintro pre ext _ ⟨rfl, hp⟩
      exact hK2 hp ext
  refine hinit _ (by simp only [go_sem, Nat.reduceEqDiff, Nat.reduceAdd, Nat.reduceLT, Nat.reduceLeDiff, reduceIte]) (by simp only [go_sem, Nat.reduceEqDiff, Nat.reduceAdd, Nat.reduceLT, Nat.reduceLeDiff, reduceIte]) _ (fun hp ext => ?_) (fun hp ext => ?_)
  · refine RgEnd_lp rfl ?_
    simp only [go_sem, Nat.reduceEqDiff, Nat.reduceAdd, Nat.reduceLT, Nat.reduceLeDiff, reduceIte, hp]
  · refine RgEnd_ret rfl ?_
    simp only [go_sem, Nat.reduceEqDiff, Nat.reduceAdd, Nat.reduceLT, Nat.reduceLeDiff, reduceIte, hp]
theorem any_true {α : Type} (l : List α) : l.any (fun _ => true) = !l.isEmpty := by cases l <;> rfl
theorem hasTruth_ok {l : Lm} (hv : LV l) : RV ft 50 [encL l] (.bool (!(truM l).isEmpty)) := by
  refine RV_of ft50 rfl ?_
  simp only [c50, r50]
  have hC := can_ok hv (.fn 77 [] []) (fun _ => true) rfl rfl rfl (fun x _ st K => by
    rw [WAH_fn]
    have h75 : RV ft 77 [encN x] (.bool true) := by
      refine RV_of ft77 rfl ?_
      simp only [c77, r77]
      simp only [go_sem, Nat.reduceEqDiff, Nat.reduceAdd, Nat.reduceLT, Nat.reduceLeDiff, reduceIte, NCells]
    simp only [go_sem, Nat.reduceEqDiff, Nat.reduceAdd, Nat.reduceLT, Nat.reduceLeDiff, reduceIte, WB77, WVH_eq h75, true_and])
  rw [any_true] at hC
  simp only [go_sem, Nat.reduceEqDiff, Nat.reduceAdd, Nat.reduceLT, Nat.reduceLeDiff, reduceIte, WB51, WVH_eq hC, true_and]
theorem surely_ok {l : Lm} (hv : LV l) (f : AV) (p : Ln → Bool) (hc : f.cells = [f]) (hso : f.solid = true) (hag : f.isAgg = false) (hsn : ∀ (m : Mem) (q : Nat), snap m (q + 7) f = f) (hh : ∀ q, hot (q + 7) f = false)
    (hf : ∀ x ∈ truM l, ∀ (st : St) (K : AV → St → Prop), @WAH ft f [encN x] st ⟨K⟩ = K (.bool (p x)) st) : RV ft 60 [encL l, f] (.bool ((truM l).all p)) := by
  refine RV_of ft60 rfl ?_
  simp only [c60, r60]
  have hC := can_ok hv (.fn 81 [] [.pv f 0]) (fun x => !p x) rfl rfl rfl (fun x hx st K => by
    rw [WAH_fn]
    have h79 : RV ft 81 [encN x, .pv f 0] (.bool (!p x)) := by
      refine RV_of ft81 rfl ?_
      simp only [c81, r81]
      simp only [go_sem, Nat.reduceEqDiff, Nat.reduceAdd, Nat.reduceLT, Nat.reduceLeDiff, reduceIte, NCells, NEta, hc, hf x hx]
    simp only [List.nil_append, List.cons_append]
    simp only [go_sem, Nat.reduceEqDiff, Nat.reduceAdd, Nat.reduceLT, Nat.reduceLeDiff, reduceIte, WB81, hsn, hh, WVH_eq h79, true_and])
  simp only [go_sem, Nat.reduceEqDiff, Nat.reduceAdd, Nat.reduceLT, Nat.reduceLeDiff, reduceIte, hc, hso, hsn, hh, WB51, WVH_eq hC, true_and, not_any_not]
theorem Many_ok (l : Lm) (hl : l.gs.length < 1073741824) : RV ft 15 [encL l] (.tup [I64 (if okL l = true then ((truM l).length : Int) else 0), I64 (if okL l = true then 0 else 90)]) := by
  refine RV_of ft15 rfl ?_
  simp only [c15, r15]
  have hC := Check_ok l hl
  cases ho : okL l
  · rw [ho] at hC
    simp only [go_sem, Nat.reduceEqDiff, Nat.reduceAdd, Nat.reduceLT, Nat.reduceLeDiff, reduceIte, WB21, WVH_eq hC, true_and, Bool.false_eq_true, if_false, show ((90 : Int) != 0) = true from rfl]
  have hv := okL_iff.1 ho
  rw [ho] at hC
  simp only [go_sem, Nat.reduceEqDiff, Nat.reduceAdd, Nat.reduceLT, Nat.reduceLeDiff, reduceIte, WB21, WVH_eq hC, WB43, WVH_eq (truths_ok l), true_and, show ((0 : Int) != 0) = false from rfl]
  refine WL_range_of (g := 70) (first := []) (cap := [.pv (encL l) 0, .pv (cW l.gs) 0]) rfl ?_
  simp only [go_sem, Nat.reduceEqDiff, Nat.reduceAdd, Nat.reduceLT, Nat.reduceLeDiff, reduceIte]
  have hbig : (truM l).length < 1073741824 := by
    have h1 : (truM l).length ≤ (linM l).length := List.length_filter_le _ _
    have h2 : (linM l).length ≤ 401 * 10 := by
      have h3 : ∀ as : List Int, (as.flatMap (linF l.fd)).length ≤ as.length * 10 := fun as => by
        induction as with
        | nil => simp
        | cons a as ih =>
          rw [List.flatMap_cons, List.length_append, List.length_cons]
          have : (linF l.fd a).length ≤ 10 := by
            unfold linF rgI
            rw [List.length_map, upF_len]
            have := hv.d0; have := hv.d2; omega
          omega
      have h4 := h3 (rgI l.fu.lo l.fu.hi)
      have h5 : (rgI l.fu.lo l.fu.hi).length ≤ 401 := by
        unfold rgI; rw [upF_len]; have := hv.u0; have := hv.u2; omega
      show ((rgI l.fu.lo l.fu.hi).flatMap (linF l.fd)).length ≤ _
      omega
    omega
  have hinit : ∀ env0 : Nat → AV, env0 5 = .ptr 1 0 0 → ∀ K : AV → Mem → Prop,
      (∀ ext, K (.tup []) ⟨[.live [encL l] 9, .live [I64 ((truM l).length : Nat)] 1, .lp env0 [13] asg15_0 body15_0 true none] ++ ext, []⟩) →
      WR ft (.f 70) [.yld 2, .pv (encL l) 0, .pv (cW l.gs) 0] ⟨[.live [encL l] 9, .live [I64 0] 1, .lp env0 [13] asg15_0 body15_0 true none], []⟩ K := by
    intro env0 v5 K hK
    refine truths_sq hv 3 2 (fun ys pre => ∃ k : Nat, pre = [.live [encL l] 9, .live [I64 (k : Int)] 1, .lp env0 [13] asg15_0 body15_0 true none] ∧ k + ys.length = (truM l).length) (fun _ => False) ?_ _ [] K rfl ⟨0, rfl, Nat.zero_add _⟩ ?_ ?_
    · rintro y ys pre suf K' hy _ ⟨k, rfl, hp⟩ hk _
      rw [List.length_cons] at hp
      refine WR_yld (ft := ft) rfl rfl ?_
      simp only [go_sem, Nat.reduceEqDiff, Nat.reduceAdd, Nat.reduceLT, Nat.reduceLeDiff, reduceIte, asg15_0, puts]
      refine YBegin_lp (ft := ft) rfl ?_
      simp only [go_sem, Nat.reduceEqDiff, Nat.reduceAdd, Nat.reduceLT, Nat.reduceLeDiff, reduceIte, body15_0, v5, wrap_n1 k (by omega)]
      refine YEnd_lp rfl ?_
      have hk' := hk _ [] rfl ⟨k + 1, rfl, by omega⟩
      rw [List.append_nil] at hk'
      exact hk'
    · rintro pre ext _ ⟨k, rfl, hp⟩
      rw [List.length_nil, Nat.add_zero] at hp
      subst hp
      exact hK ext
    · rintro pre ext _ h; exact h.elim
  refine hinit _ (by simp only [go_sem, Nat.reduceEqDiff, Nat.reduceAdd, Nat.reduceLT, Nat.reduceLeDiff, reduceIte]) _ fun ext => ?_
  refine RgEnd_lp rfl ?_
  simp only [go_sem, Nat.reduceEqDiff, Nat.reduceAdd, Nat.reduceLT, Nat.reduceLeDiff, reduceIte, if_pos]
end Go.Ab.T
end
