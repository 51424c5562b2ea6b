/-
  A part of the proofs over this seat.
  (The texts AxM6 AxM7 AxR30 AxR31, one behind the other.)
-/
import Derived.Test.YtbbpdlobjbpchaaDoorP5
import Derived.Test.YtbbpdlobjbpchaaDoorP7
set_option linter.unusedSimpArgs false
set_option linter.unusedVariables false
set_option linter.unusedSectionVars false
section
namespace Go.Ab.T
set_option maxRecDepth 8000
set_option linter.unusedSimpArgs false
set_option linter.unusedVariables false
/-! ### Rows when feet are taken out -/
theorem splices_rc (t : Nat) (h : t < 65536) : splicesL t = rc 16 t false - 1 := by
  unfold splicesL
  rw [rowsL_rc 16 t (by omega) (by simpa using h) h]
theorem longest_lr (t : Nat) (h : t < 65536) : longestL t = lr 16 t 0 0 := by
  unfold longestL
  exact rowsL_lr 16 t 0 (by omega) (by simpa using h) h
/-- The bits that begin a row. -/
def begins (f : Nat) (p : Bool) (i : Nat) : Bool := f.testBit i && !(if i = 0 then p else f.testBit (i - 1))
theorem begins_succ (f : Nat) (p : Bool) (i : Nat) : begins f p (i + 1) = begins (f / 2) (decide (f % 2 = 1)) i := by
  unfold begins
  rw [Nat.testBit_succ, if_neg (by omega), Nat.add_sub_cancel]
  cases i with
  | zero => rw [if_pos rfl, show f.testBit 0 = decide (f % 2 = 1) from Nat.testBit_zero _]
  | succ j => rw [if_neg (by omega), Nat.add_sub_cancel, show f.testBit (j + 1) = (f / 2).testBit j from Nat.testBit_succ _ _]
theorem rc_begins : ∀ k f p, rc k f p = (List.range k).countP (begins f p)
  | 0, _, _ => rfl
  | k + 1, f, p => by
    rw [List.range_succ_eq_map, List.countP_cons, List.countP_map]
    have h1 : (List.range k).countP (begins f p ∘ Nat.succ) = rc k (f / 2) (decide (f % 2 = 1)) := by
      rw [rc_begins k]
      exact List.countP_congr fun i _ => by
        show begins f p (i + 1) = true ↔ _
        rw [begins_succ]
    rw [h1]
    show (if f % 2 = 1 ∧ p = false then 1 else 0) + rc k (f / 2) (decide (f % 2 = 1)) = _
    unfold begins
    rw [show f.testBit 0 = decide (f % 2 = 1) from Nat.testBit_zero _, if_pos rfl, Nat.add_comm]
    congr 1
    by_cases h : f % 2 = 1 <;> cases p <;> simp [h]
theorem countP_or (p q : Nat → Bool) : ∀ l : List Nat, l.countP (fun i => p i || q i) ≤ l.countP p + l.countP q
  | [] => by simp
  | a :: l => by
    have := countP_or p q l
    rw [List.countP_cons, List.countP_cons, List.countP_cons]
    cases p a <;> cases q a <;> simp <;> omega
theorem count_range (k n : Nat) : (List.range k).countP (fun i => i == n) ≤ 1 := by
  have := List.nodup_iff_count.1 (List.nodup_range (n := k)) n
  exact this
theorem begins_block {t a d i : Nat} (h16 : i < 16) (h : begins (andn t (blkN a d)) false i = true) : (begins t false i || i == a + d) = true := by
  unfold begins at h ⊢
  simp only [Bool.and_eq_true, Bool.not_eq_true'] at h
  obtain ⟨h1, h2⟩ := h
  rw [andn_bit _ _ _ h16, blkN_bit] at h1
  simp only [Bool.and_eq_true, Bool.not_eq_true', Bool.and_eq_false_imp, decide_eq_true_eq, decide_eq_false_iff_not] at h1
  obtain ⟨h3, h4⟩ := h1
  rw [h3]
  by_cases hi : i = 0
  · rw [if_pos hi]; rfl
  · rw [if_neg hi] at h2 ⊢
    rw [andn_bit _ _ _ (by omega), blkN_bit] at h2
    cases h5 : t.testBit (i - 1)
    · rfl
    · rw [h5] at h2
      simp only [Bool.true_and, Bool.not_eq_false', Bool.and_eq_true, decide_eq_true_eq] at h2
      have : i = a + d := by
        by_cases h6 : a ≤ i
        · have := h4 h6; omega
        · omega
      simp [this]
theorem rc_block (t a d : Nat) : rc 16 (andn t (blkN a d)) false ≤ rc 16 t false + 1 := by
  rw [rc_begins, rc_begins]
  refine Nat.le_trans (List.countP_mono_left (q := fun i => begins t false i || i == a + d) fun i hi h => begins_block (List.mem_range.1 hi) h) ?_
  refine Nat.le_trans (countP_or _ _ _) ?_
  have := count_range 16 (a + d)
  omega
/-- Feet that are taken out leave no longer row. -/
theorem lr_mono : ∀ k f g now now' most most', (∀ i, g.testBit i = true → f.testBit i = true) → now' ≤ now → most' ≤ most → lr k g now' most' ≤ lr k f now most
  | 0, f, g, now, now', most, most', hb, hn, hm => hm
  | k + 1, f, g, now, now', most, most', hb, hn, hm => by
    have hb' : ∀ i, (g / 2).testBit i = true → (f / 2).testBit i = true := fun i h => by
      rw [← Nat.testBit_succ] at h ⊢; exact hb _ h
    have h0 := hb 0
    simp only [Nat.testBit_zero, decide_eq_true_eq] at h0
    unfold lr
    by_cases hg : g % 2 = 1
    · rw [if_pos hg, if_pos (h0 hg)]
      exact lr_mono k _ _ _ _ _ _ hb' (by omega) (by omega)
    · rw [if_neg hg]
      split
      · exact lr_mono k _ _ _ _ _ _ hb' (by omega) (by omega)
      · exact lr_mono k _ _ _ _ _ _ hb' (by omega) hm
theorem longest_mono {t u : Nat} (ht : t < 65536) (hu : u < 65536) (h : ∀ i, u.testBit i = true → t.testBit i = true) : longestL u ≤ longestL t := by
  rw [longest_lr t ht, longest_lr u hu]
  exact lr_mono 16 t u 0 0 0 0 h (Nat.le_refl _) (Nat.le_refl _)
theorem popc_mono {t u : Nat} (h : ∀ i, u.testBit i = true → t.testBit i = true) : popc 16 u ≤ popc 16 t := by
  rw [popc_range, popc_range, ← List.countP_eq_length_filter, ← List.countP_eq_length_filter]
  exact List.countP_mono_left fun i _ hi => h i hi
theorem andn_sub {t b i : Nat} (h : (andn t b).testBit i = true) : t.testBit i = true := by
  unfold andn at h
  rw [Nat.testBit_and, Bool.and_eq_true] at h
  exact h.1
end Go.Ab.T
end

section
namespace Go.Ab.T
set_option maxRecDepth 8000
set_option linter.unusedSimpArgs false
set_option linter.unusedVariables false
/-! ### Splices and tears -/
theorem rc_all : ∀ L, L < 17 → rc 16 (allN L) false ≤ 1 := by decide +kernel
theorem rc_choice {L : Nat} (hL : L ≤ 16) : ∀ (T : List Mk) (u : Nat), Choice T 0 u → rc 16 (andn (allN L) u) false ≤ 1 + T.length
  | [], u, ⟨_, h⟩ => by
    subst h
    rw [andn_zero _ (allN_lt L hL)]
    exact rc_all L (by omega)
  | m :: T, u, h => by
    rcases h with ⟨b, u', h1, h2, rfl⟩ | ⟨d', h0, _⟩
    · have ih := rc_choice hL T u' h2
      rw [Nat.or_comm, ← andn_or L u' b hL]
      rcases h1 with ⟨_, rfl⟩ | ⟨a, d, _, _, _, _, _, rfl⟩
      · rw [andn_zero _ (andn_lt _ _ (allN_lt L hL))]
        simp only [List.length_cons]; omega
      · have := rc_block (andn (allN L) u') a d
        simp only [List.length_cons]; omega
    · omega
theorem splices_tears {r : Rl} {L t : Nat} (h : Ok r L) (ht : t ∈ truthsL r L) : splicesL t ≤ (tearsL r).length := by
  have h9 := h.nine
  obtain ⟨⟨g, h1, rfl⟩, _⟩ := (truths_mem h t).1 ht
  rw [splices_rc _ (andn_lt _ _ (allN_lt L (by omega)))]
  have := rc_choice (show L ≤ 16 by omega) _ g h1
  omega
/-! ### One mark more -/
def addR (r : Rl) (m : Mk) : Rl := ⟨r.feet, r.marks ++ [m]⟩
theorem add_tear0 {r : Rl} {m : Mk} (h : isTear m = false) : tearsL (addR r m) = tearsL r ∧ claimsL (addR r m) = claimsL r ++ [m] := by
  unfold tearsL claimsL addR
  rw [List.filter_append, List.filter_append, List.filter_cons, List.filter_cons, h]
  simp
theorem add_tear1 {r : Rl} {m : Mk} (h : isTear m = true) : tearsL (addR r m) = tearsL r ++ [m] ∧ claimsL (addR r m) = claimsL r := by
  unfold tearsL claimsL addR
  rw [List.filter_append, List.filter_append, List.filter_cons, List.filter_cons, h]
  simp
theorem addm_mem {r : Rl} {m : Mk} {L t : Nat} (h : Ok r L) (ho : Ok (addR r m) L) (hm : isTear m = false) : t ∈ truthsL (addR r m) L ↔ t ∈ truthsL r L ∧ claimT m t = true := by
  obtain ⟨e1, e2⟩ := add_tear0 (r := r) hm
  rw [truths_mem h, truths_mem ho]
  unfold IsT
  rw [e1, e2]
  constructor
  · rintro ⟨h1, h2⟩
    exact ⟨⟨h1, fun x hx => h2 x (by simp [hx])⟩, h2 m (by simp)⟩
  · rintro ⟨⟨h1, h2⟩, h3⟩
    refine ⟨h1, fun x hx => ?_⟩
    rcases List.mem_append.1 hx with hx | hx
    · exact h2 x hx
    · simp at hx; subst hx; exact h3
theorem len_le_of {a b : List Nat} (ha : a.Nodup) (hb : b.Nodup) (p : Nat → Bool) (h : ∀ x, x ∈ a ↔ x ∈ b ∧ p x = true) : a.length ≤ b.length := by
  have := len_of_mem ha (nodup_filter p hb) fun x => by rw [List.mem_filter]; exact h x
  rw [this]; exact List.length_filter_le _ _
/-- The spans of fewer truths are within. -/
theorem span_sub {r o : Rl} (h0 : checkR r = 0) (h1 : checkR o = 0) (hs : ∀ t ∈ TL o, t ∈ TL r) (hne : TL o ≠ []) (c : Nat → Nat) : lowT r c ≤ lowT o c ∧ lowT o c ≤ highT o c ∧ highT o c ≤ highT r c := by
  have hr : TL r ≠ [] := fun h => by
    obtain ⟨t, ht⟩ := List.exists_mem_of_ne_nil _ hne
    have := hs t ht; rw [h] at this; cases this
  obtain ⟨a1, t1, a2, a3⟩ := low_spec h0 hr c
  obtain ⟨b1, t2, b2, b3⟩ := high_spec h0 hr c
  obtain ⟨c1, t3, c2, c3⟩ := low_spec h1 hne c
  obtain ⟨d1, t4, d2, d3⟩ := high_spec h1 hne c
  have e1 := a1 t3 (hs t3 c2)
  have e2 := b1 t4 (hs t4 d2)
  have e3 := d1 t3 c2
  omega
/-! ### Blocks that there are -/
theorem choice_ex : ∀ T : List Mk, (∀ m ∈ T, ∃ b, isB m b) → ∃ u, Choice T 0 u
  | [], _ => ⟨0, rfl, rfl⟩
  | m :: T, h => by
    obtain ⟨b, hb⟩ := h m (by simp)
    obtain ⟨u, hu⟩ := choice_ex T fun x hx => h x (by simp [hx])
    exact ⟨b ||| u, Or.inl ⟨b, u, hb, hu, rfl⟩⟩
theorem choice_has : ∀ (T : List Mk) (u : Nat), Choice T 0 u → ∀ m ∈ T, ∃ b, isB m b
  | [], _, _, m, hm => by cases hm
  | x :: T, u, h, m, hm => by
    rcases h with ⟨b, u', h1, h2, rfl⟩ | ⟨d', h0, _⟩
    · rcases List.mem_cons.1 hm with rfl | hm
      · exact ⟨b, h1⟩
      · exact choice_has T u' h2 m hm
    · omega
theorem isB_ex {m : Mk} (h1 : 0 ≤ m.fr) (h2 : m.fr ≤ m.to) (h3 : 0 ≤ m.lo) (h4 : m.lo ≤ m.hi) : (∃ b, isB m b) ↔ m.lo ≤ m.to - m.fr + 1 := by
  unfold isB isBlk
  constructor
  · rintro ⟨b, ⟨h5, _⟩ | ⟨a, d, g1, g2, g3, g4, g5, _⟩⟩ <;> omega
  · intro h
    by_cases h0 : m.lo = 0
    · exact ⟨0, Or.inl ⟨by omega, rfl⟩⟩
    · exact ⟨_, Or.inr ⟨m.fr.toNat, m.lo.toNat, by omega, by omega, by omega, by omega, by omega, rfl⟩⟩
/-! ### The same truths -/
theorem same_span {r o : Rl} (h0 : checkR r = 0) (h1 : checkR o = 0) (hs : ∀ t, t ∈ TL r ↔ t ∈ TL o) (c : Nat → Nat) : lowT r c = lowT o c ∧ highT r c = highT o c := by
  by_cases hne : TL o = []
  · have hr : TL r = [] := List.eq_nil_iff_forall_not_mem.2 fun t ht => by have := (hs t).1 ht; rw [hne] at this; cases this
    unfold lowT highT
    rw [if_pos h0, if_pos h0, if_pos h1, if_pos h1, hr, hne]
    exact ⟨rfl, rfl⟩
  · have hr : TL r ≠ [] := fun h => by
      obtain ⟨t, ht⟩ := List.exists_mem_of_ne_nil _ hne
      have := (hs t).2 ht; rw [h] at this; cases this
    obtain ⟨a, _, b⟩ := span_sub h0 h1 (fun t ht => (hs t).2 ht) hne c
    obtain ⟨d, _, e⟩ := span_sub h1 h0 (fun t ht => (hs t).1 ht) hr c
    omega
theorem choice_perm {T T' : List Mk} (h : T.Perm T') : ∀ d u, Choice T d u → Choice T' d u := by
  induction h with
  | nil => exact fun d u h => h
  | cons x _ ih =>
    intro d u h
    rcases h with ⟨b, u', h1, h2, rfl⟩ | ⟨d', rfl, h2⟩
    · exact Or.inl ⟨b, u', h1, ih _ _ h2, rfl⟩
    · exact Or.inr ⟨d', rfl, ih _ _ h2⟩
  | swap x y l =>
    intro d u h
    rcases h with ⟨b, u', h1, h2, rfl⟩ | ⟨d', rfl, h2⟩
    · rcases h2 with ⟨b', u'', h3, h4, rfl⟩ | ⟨d'', rfl, h3⟩
      · exact Or.inl ⟨b', b ||| u'', h3, Or.inl ⟨b, u'', h1, h4, rfl⟩, by rw [← Nat.or_assoc, ← Nat.or_assoc, Nat.or_comm b b']⟩
      · exact Or.inr ⟨d'', rfl, Or.inl ⟨b, u', h1, h3, rfl⟩⟩
    · rcases h2 with ⟨b', u'', h3, h4, rfl⟩ | ⟨d'', rfl, h3⟩
      · exact Or.inl ⟨b', u'', h3, Or.inr ⟨d', rfl, h4⟩, rfl⟩
      · exact Or.inr ⟨d'' + 1, rfl, Or.inr ⟨d'', rfl, h3⟩⟩
  | trans _ _ ih1 ih2 => exact fun d u h => ih2 _ _ (ih1 _ _ h)
theorem perm_mem {r o : Rl} {L : Nat} (h : Ok r L) (ho : Ok o L) (hp : r.marks.Perm o.marks) (t : Nat) : t ∈ truthsL r L ↔ t ∈ truthsL o L := by
  have key : ∀ {r o : Rl}, r.marks.Perm o.marks → IsT r L t → IsT o L t := fun {r o} hp => by
    rintro ⟨⟨g, h1, h2⟩, h3⟩
    refine ⟨⟨g, choice_perm (hp.filter _) _ _ h1, h2⟩, fun m hm => h3 m ?_⟩
    exact (hp.filter _).mem_iff.2 hm
  rw [truths_mem h, truths_mem ho]
  exact ⟨key hp, key hp.symm⟩
theorem perm_ok {r o : Rl} {L : Nat} (h : Ok r L) (hf : o.feet = r.feet) (hp : r.marks.Perm o.marks) : Ok o L :=
  ⟨hf.trans h.feet, h.one, h.nine, by rw [← hp.length_eq]; exact h.ten, fun m hm => by rw [hf]; exact h.marks m (hp.mem_iff.2 hm)⟩
end Go.Ab.T
end

section
namespace Go.Ab.T
set_option maxRecDepth 8000
set_option linter.unusedSimpArgs false
set_option linter.unusedVariables false
set_option maxHeartbeats 4000000
theorem join_none (blks : List Blk) (f : Int) : joinMem ⟨blks, []⟩ ⟨[.live [.agg [I64 f, .sl [] .unk]] 2, .live [.agg [I64 f, .sl [] .tight]] 2], []⟩ 9 = ⟨blks ++ [.live [.agg [I64 f, .sl [] .unk]] 2, .live [.agg [I64 f, .sl [] .tight]] 2], []⟩ := rfl
theorem shift_none (n : Nat) (f : Int) : shift n 0 9 (.agg [I64 f, .sl [] .tight]) = .agg [I64 f, .sl [] .tight] := rfl
theorem with_ok (r : Rl) (m : Mk) (hl : r.marks.length < 1000) : RV ft 46 [encR r, encM m] (encR (addR r m)) := by
  refine RV_of ft46 rfl ?_
  simp only [c46, r46]
  simp only [go_sem, Nat.reduceEqDiff, Nat.reduceAdd, Nat.reduceLT, Nat.reduceLeDiff, reduceIte, and_self, decide_true, decide_false, beq_self_eq_true, WB16, sn_ms]
  refine Copy_ok r (by omega) _ (fun he => ?_) (fun he => ?_)
  · obtain ⟨f, ms⟩ := r
    dsimp only at he
    subst he
    have happ : appendAt ⟨[.live [.agg [I64 f, .sl [] .unk]] 2, .live [encM m] 5, .live [.agg [I64 0, .sl [] .tight]] 2, .live [.agg [I64 f, .sl [] .unk]] 2, .live [.agg [I64 f, .sl [] .tight]] 2, .live [.agg [I64 f, .sl [] .tight]] 2], []⟩ false (.sl [] .tight) (.sl [encM m] .tight) 37 5 40 = some (.sl [encM m] (.at 0), ⟨[.live [.agg [I64 f, .sl [] .unk]] 2, .live [encM m] 5, .live [.agg [I64 0, .sl [] .tight]] 2, .live [.agg [I64 f, .sl [] .unk]] 2, .live [.agg [I64 f, .sl [] .tight]] 2, .live [.agg [I64 f, .sl [] .tight]] 2], [(1, 37)]⟩) := rfl
    simp only [go_sem, Nat.reduceEqDiff, Nat.reduceAdd, Nat.reduceLT, Nat.reduceLeDiff, reduceIte, and_self, decide_true, decide_false, beq_self_eq_true, hot_ms, true_and, encR, List.map_nil, join_none, shift_none, List.any_nil, Bool.false_eq_true, happ]
    rfl
  · have hn : decide (r.marks.length + 1 ≤ r.marks.length) = false := decide_eq_false (by omega)
    have happ : ∀ blks : List Blk, blks[5]? = some (.live (r.marks.map encM) 5) → appendAt ⟨blks, []⟩ false (.ref 5 0 r.marks.length) (.sl [encM m] .tight) 37 5 40 = some (.ref blks.length 0 (r.marks.length + 1), ⟨blks.set 5 .dead ++ [.live (r.marks.map encM ++ [encM m]) 5], []⟩) := fun blks hb => by
      simp only [appendAt, Mem.elems, hb, hdSz, List.length_map, List.length_cons, List.length_nil]
      rw [if_neg (by simp [AV.cells]), if_neg (by simp), if_neg (by omega), if_pos ⟨⟨trivial, trivial⟩, by unfold limit; omega⟩]
    have happ2 := happ [.live [encR r] 2, .live [encM m] 5, .live [.agg [I64 0, .sl [] .tight]] 2, .live [encR r] 2, .live [.agg [I64 r.feet, .ref 5 0 r.marks.length]] 2, .live (r.marks.map encM) 5, .live [.agg [I64 r.feet, .ref 5 0 r.marks.length]] 2] rfl
    have htk : (r.marks.map encM ++ [encM m]).take (r.marks.length + 1) = (addR r m).marks.map encM := by
      rw [List.take_of_length_le (by simp)]; simp [addR]
    have hln : (r.marks.map encM ++ [encM m]).length = r.marks.length + 1 := by simp
    simp only [go_sem, Nat.reduceEqDiff, Nat.reduceAdd, Nat.reduceLT, Nat.reduceLeDiff, reduceIte, and_self, decide_true, decide_false, beq_self_eq_true, hot_ms, true_and, join_copy, shift_copy, happ2]
    simp only [go_sem, Nat.reduceEqDiff, Nat.reduceAdd, Nat.reduceLT, Nat.reduceLeDiff, reduceIte, and_self, decide_true, decide_false, beq_self_eq_true, Mem.elems, hln, Nat.zero_add, Nat.le_refl, htk, sn_ms]
    rfl
def cnts : List (Nat → Nat) := [popc 16, splicesL, longestL]
def spn (r : Rl) (c : Nat → Nat) : AV := .agg [I64 (lowT r c : Nat), I64 (highT r c : Nat)]
theorem spans_ok (r : Rl) (h : Near r) : RV ft 47 [encR r] (.tup [.sl (cnts.map (spn r)) .unk, .bool (errT r == 0)]) := by
  refine RV_of ft47 rfl ?_
  simp only [c47, r47]
  simp only [go_sem, Nat.reduceEqDiff, Nat.reduceAdd, Nat.reduceLT, Nat.reduceLeDiff, reduceIte, and_self, decide_true, decide_false, beq_self_eq_true, WB23, sn_ms, WVH_eq (Left_ok r h), hot_ms, true_and, WB25, WVH_eq (Splices_ok r h), WB27, WVH_eq (Longest_ok r h)]
  cases hb : (errT r == 0)
  · simp only [go_sem, Nat.reduceEqDiff, Nat.reduceAdd, Nat.reduceLT, Nat.reduceLeDiff, reduceIte, and_self, decide_true, decide_false, beq_self_eq_true, hb]
    rfl
  · simp only [go_sem, Nat.reduceEqDiff, Nat.reduceAdd, Nat.reduceLT, Nat.reduceLeDiff, reduceIte, and_self, decide_true, decide_false, beq_self_eq_true, hb]
    rfl
theorem inside_ok (a b c d : Int) : RV ft 48 [.agg [I64 a, I64 b], .agg [I64 c, I64 d]] (.bool (decide (c ≤ a) && decide (a ≤ b) && decide (b ≤ d))) := by
  refine RV_of ft48 rfl ?_
  simp only [c48, r48]
  repeat' (first | simp only [go_sem, Nat.reduceEqDiff, Nat.reduceAdd, Nat.reduceLT, Nat.reduceLeDiff, reduceIte, and_self, decide_true, decide_false, beq_self_eq_true, Bool.not_true, Bool.not_false, decide_true, decide_false, true_and, and_true, *] | (refine Cs_of (fun _ => ?_) (fun _ => ?_)))
end Go.Ab.T
end

section
namespace Go.Ab.T
set_option maxRecDepth 8000
set_option linter.unusedSimpArgs false
set_option linter.unusedVariables false
set_option maxHeartbeats 4000000
/-- What is known of a foot is known still. -/
theorem foot_still {r o : Rl} {n : Int} (hr : Near r) (ho : Near o) (h0 : checkR r = 0) (h1 : checkR o = 0) (hs : ∀ t ∈ TL o, t ∈ TL r) (hne : TL o ≠ []) (hf : o.feet = r.feet) (n1 : 0 ≤ n) (n2 : n < r.feet) :
    footE r n = 0 ∧ footE o n = 0 ∧ (footK r n = 3 ∨ footK r n = footK o n) := by
  have hrn : TL r ≠ [] := fun h => by
    obtain ⟨t, ht⟩ := List.exists_mem_of_ne_nil _ hne
    have := hs t ht; rw [h] at this; cases this
  obtain ⟨a1, a2⟩ := footK_eq hr h0 n1 n2 hrn
  obtain ⟨b1, b2⟩ := footK_eq ho h1 n1 (by omega) hne
  refine ⟨a1, b1, ?_⟩
  rw [a2, b2]
  have sub : ∀ p : Nat → Bool, (knownL r).all p = true → (knownL o).all p = true := fun p h => by
    rw [List.all_eq_true] at h ⊢
    exact fun t ht => h t ((known_mem hr h0 t).2 (hs t ((known_mem ho h1 t).1 ht)))
  unfold footOf
  cases c1 : (knownL r).all fun t => t.testBit n.toNat
  · simp only [Bool.false_eq_true, if_false]
    cases c2 : (knownL r).all fun t => !t.testBit n.toNat
    · left; rfl
    · right
      have d2 := sub _ c2
      have d1 : ((knownL o).all fun t => t.testBit n.toNat) = false := by
        rw [List.all_eq_false]
        obtain ⟨t, ht⟩ := List.exists_mem_of_ne_nil _ hne
        have htk := (known_mem ho h1 t).2 ht
        refine ⟨t, htk, ?_⟩
        have := List.all_eq_true.1 d2 t htk
        simpa using this
      rw [d1, d2]; rfl
  · right
    rw [sub _ c1]; rfl
theorem cnts_get (f : (Nat → Nat) → AV) (k : Nat) : (cnts.map f)[k]? = cnts[k]?.map f := List.getElem?_map
theorem ReelMore_run (r : Rl) (m : Mk) (n : Int) : RV ft 8 [encR r, encM m, I64 n] (.bool true) := by
  refine RV_of ft8 rfl ?_
  simp only [c8, r8]
  cases hr : readyR r
  case false => simp only [go_sem, Nat.reduceEqDiff, Nat.reduceAdd, Nat.reduceLT, Nat.reduceLeDiff, reduceIte, and_self, decide_true, decide_false, beq_self_eq_true, sn_ms, hot_ms, WB40, WVH_eq (ready_ok r), true_and, hr, WB15, WVH_eq works_ok]
  cases c1 : decide ((10 : Int) ≤ (r.marks.length : Int))
  case true => simp only [go_sem, Nat.reduceEqDiff, Nat.reduceAdd, Nat.reduceLT, Nat.reduceLeDiff, reduceIte, and_self, decide_true, decide_false, beq_self_eq_true, sn_ms, hot_ms, WB40, WVH_eq (ready_ok r), true_and, hr, List.length_map, c1, WB15, WVH_eq works_ok]
  cases c2 : (m.kind == 1)
  case true => simp only [go_sem, Nat.reduceEqDiff, Nat.reduceAdd, Nat.reduceLT, Nat.reduceLeDiff, reduceIte, and_self, decide_true, decide_false, beq_self_eq_true, sn_ms, hot_ms, WB40, WVH_eq (ready_ok r), true_and, hr, List.length_map, c1, c2, WB15, WVH_eq works_ok]
  cases c3 : decide (n < 0)
  case true => simp only [go_sem, Nat.reduceEqDiff, Nat.reduceAdd, Nat.reduceLT, Nat.reduceLeDiff, reduceIte, and_self, decide_true, decide_false, beq_self_eq_true, sn_ms, hot_ms, WB40, WVH_eq (ready_ok r), true_and, hr, List.length_map, c1, c2, c3, WB15, WVH_eq works_ok]
  cases c4 : decide (r.feet ≤ n)
  case true => simp only [go_sem, Nat.reduceEqDiff, Nat.reduceAdd, Nat.reduceLT, Nat.reduceLeDiff, reduceIte, and_self, decide_true, decide_false, beq_self_eq_true, sn_ms, hot_ms, WB40, WVH_eq (ready_ok r), true_and, hr, List.length_map, c1, c2, c3, c4, WB15, WVH_eq works_ok]
  obtain ⟨hn, h0, hok⟩ := ready_spec hr
  have h10 := hok.ten
  have hw := with_ok r m (by omega)
  obtain ⟨o, ho⟩ : ∃ o, o = addR r m := ⟨_, rfl⟩
  rw [← ho] at hw
  cases hro : readyR o
  case false => simp only [go_sem, Nat.reduceEqDiff, Nat.reduceAdd, Nat.reduceLT, Nat.reduceLeDiff, reduceIte, and_self, decide_true, decide_false, beq_self_eq_true, sn_ms, hot_ms, WB40, WVH_eq (ready_ok r), true_and, hr, List.length_map, c1, c2, c3, c4, WB46, WVH_eq hw, WVH_eq (ready_ok o), hro, WB15, WVH_eq works_ok]
  obtain ⟨hno, h0o, hoko'⟩ := ready_spec hro
  have hfe : o.feet = r.feet := by rw [ho]; rfl
  have hoko : Ok o r.feet.toNat := by rw [← hfe]; exact hoko'
  have hmt : isTear m = false := c2
  have hsub' : ∀ t, t ∈ truthsL o r.feet.toNat ↔ t ∈ truthsL r r.feet.toNat ∧ claimT m t = true := fun t => by
    rw [ho] at hoko ⊢
    exact addm_mem hok hoko hmt
  have hTLo : TL o = truthsL o r.feet.toNat := by show truthsL o o.feet.toNat = _; rw [hfe]
  have hsub : ∀ t ∈ TL o, t ∈ TL r := fun t ht => by rw [hTLo] at ht; exact ((hsub' t).1 ht).1
  have hlen : (TL o).length ≤ (TL r).length := by
    rw [hTLo]
    exact len_le_of (truths_nodup hoko) (truths_nodup hok) _ hsub'
  have eM := Many_ok r hn
  have eMo := Many_ok o hno
  have hM : manyL r = ((TL r).length : Nat) := by unfold manyL; rw [if_pos h0]
  have hMo : manyL o = ((TL o).length : Nat) := by unfold manyL; rw [if_pos h0o]
  rw [hM, h0] at eM
  rw [hMo, h0o] at eMo
  have d1 : decide (((TL r).length : Int) < ((TL o).length : Int)) = false := decide_eq_false (by omega)
  have d2 : decide (((TL o).length : Int) < 0) = false := decide_eq_false (by omega)
  have z0 : ((0 : Int) != 0) = false := rfl
  have eS := spans_ok r hn
  have eSo := spans_ok o hno
  by_cases hne : TL o = []
  · have hz : (((TL o).length : Int) == 0) = true := by rw [hne]; rfl
    have hE : (errT o == 0) = false := by rw [errT_none h0o hne]; rfl
    rw [hE] at eSo
    simp only [go_sem, Nat.reduceEqDiff, Nat.reduceAdd, Nat.reduceLT, Nat.reduceLeDiff, reduceIte, and_self, decide_true, decide_false, beq_self_eq_true, sn_ms, hot_ms, WB40, WVH_eq (ready_ok r), true_and, hr, List.length_map, c1, c2, c3, c4, WB46, WVH_eq hw, WVH_eq (ready_ok o), hro, WB17, WVH_eq eM, WVH_eq eMo, z0, d1, d2, hz, WB47, WVH_eq eSo, WB15, WVH_eq works_ok]
  have hz : (((TL o).length : Int) == 0) = false := by
    have : (TL o).length ≠ 0 := fun h => hne (List.length_eq_zero_iff.1 h)
    simpa using this
  have hrn : TL r ≠ [] := fun h => by
    obtain ⟨t, ht⟩ := List.exists_mem_of_ne_nil _ hne
    have := hsub t ht; rw [h] at this; cases this
  have hEr : (errT r == 0) = true := by rw [errT_ne h0 hrn]; rfl
  have hEo : (errT o == 0) = true := by rw [errT_ne h0o hne]; rfl
  rw [hEr] at eS
  rw [hEo] at eSo
  have c3' := of_decide_eq_false c3
  have c4' := of_decide_eq_false c4
  obtain ⟨f1, f2, f3⟩ := foot_still hn hno h0 h0o hsub hne hfe (show 0 ≤ n by omega) (by omega)
  have eF := Foot_ok r hn n
  have eFo := Foot_ok o hno n
  rw [f1] at eF
  rw [f2] at eFo
  simp only [go_sem, Nat.reduceEqDiff, Nat.reduceAdd, Nat.reduceLT, Nat.reduceLeDiff, reduceIte, and_self, decide_true, decide_false, beq_self_eq_true, sn_ms, hot_ms, WB40, WVH_eq (ready_ok r), true_and, hr, List.length_map, c1, c2, c3, c4, WB46, WVH_eq hw, WVH_eq (ready_ok o), hro, WB17, WVH_eq eM, WVH_eq eMo, z0, d1, d2, hz, WB47, WVH_eq eS, WVH_eq eSo]
  refine WL_inv (α := Nat × List (Nat → Nat)) (fun a e mm => e 2 = I64 n ∧ e 3 = .ptr 0 0 0 ∧ e 7 = .ptr 2 0 0 ∧ e 14 = .sl (cnts.map (spn r)) .unk ∧ e 16 = .sl (cnts.map (spn o)) .unk ∧ e 18 = I64 a.1 ∧ cnts.drop a.1 = a.2 ∧ a.1 ≤ cnts.length ∧ mm.blks[0]? = some (.live [encR r] 2) ∧ mm.blks[2]? = some (.live [encR o] 2)) (fun a => cnts.length - a.1) (0, cnts) ?_ ?_
  · simp only [go_sem, Nat.reduceEqDiff, Nat.reduceAdd, Nat.reduceLT, Nat.reduceLeDiff, reduceIte, and_self, decide_true, decide_false, beq_self_eq_true]
    exact ⟨trivial, trivial, trivial, trivial, trivial, rfl, trivial, Nat.zero_le _, trivial⟩
  rintro ⟨k, cs⟩ e ⟨blks, toks⟩ ⟨g2, g3, g7, g14, g16, g18, hd, hk, hb0, hb2⟩
  dsimp only at g18 hd hk hb0 hb2
  have hcl : cnts.length = 3 := rfl
  rcases cs with _ | ⟨c, cs⟩
  · have hk' := drop_nil hd
    have f3' : ((footK r n == 3) || (footK r n == footK o n)) = true := by
      rcases f3 with h | h
      · rw [h]; rfl
      · rw [h]; simp
    simp only [go_sem, Nat.reduceEqDiff, Nat.reduceAdd, Nat.reduceLT, Nat.reduceLeDiff, reduceIte, and_self, decide_true, decide_false, beq_self_eq_true, g2, g3, g7, g14, g16, g18, hb0, hb2, List.length_map, dec_ge hk', sn_ms, hot_ms, WB29, WVH_eq eF, WVH_eq eFo, true_and]
    cases h3 : (footK r n == 3)
    · have h4 : (footK r n == footK o n) = true := by rw [h3, Bool.false_or] at f3'; exact f3'
      simp only [go_sem, Nat.reduceEqDiff, Nat.reduceAdd, Nat.reduceLT, Nat.reduceLeDiff, reduceIte, and_self, decide_true, decide_false, beq_self_eq_true, h3, h4, WB15, WVH_eq works_ok, true_and]
    · simp only [go_sem, Nat.reduceEqDiff, Nat.reduceAdd, Nat.reduceLT, Nat.reduceLeDiff, reduceIte, and_self, decide_true, decide_false, beq_self_eq_true, h3, WB15, WVH_eq works_ok, true_and]
  · obtain ⟨hg, hd', hlt⟩ := drop_cons hd
    have hw : IntKind.i64.wrap ((k : Int) + 1) = ((k + 1 : Nat) : Int) := by rw [wrap_i64 _ (by omega) (by omega)]; rfl
    obtain ⟨s1, s2, s3⟩ := span_sub h0 h0o hsub hne c
    have e1 : decide (((lowT r c : Nat) : Int) ≤ ((lowT o c : Nat) : Int)) = true := decide_eq_true (by omega)
    have e2 : decide (((lowT o c : Nat) : Int) ≤ ((highT o c : Nat) : Int)) = true := decide_eq_true (by omega)
    have e3 : decide (((highT o c : Nat) : Int) ≤ ((highT r c : Nat) : Int)) = true := decide_eq_true (by omega)
    simp only [go_sem, Nat.reduceEqDiff, Nat.reduceAdd, Nat.reduceLT, Nat.reduceLeDiff, reduceIte, and_self, decide_true, decide_false, beq_self_eq_true, g2, g3, g7, g14, g16, g18, List.length_map, dec_lt hlt, dec_nn, Int.toNat_natCast, cnts_get, hg, spn, WB48, WVH_eq (inside_ok _ _ _ _), e1, e2, e3, Bool.and_self, Bool.not_true, true_and, hw]
    refine Nx_of (k + 1, cs) (by simp; omega) ?_
    simp only [go_sem, Nat.reduceEqDiff, Nat.reduceAdd, Nat.reduceLT, Nat.reduceLeDiff, reduceIte, and_self, decide_true, decide_false, beq_self_eq_true, g2, g3, g7, g14, g16]
    exact ⟨trivial, trivial, trivial, trivial, trivial, trivial, hd', by omega, hb0, hb2⟩
end Go.Ab.T
end
