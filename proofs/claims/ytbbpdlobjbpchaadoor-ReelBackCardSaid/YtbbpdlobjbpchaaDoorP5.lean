/-
  A part of the proofs over this seat.
  (The texts AxM5 AxR22 AxR23 AxR24, one behind the other.)
-/
import Derived.Test.YtbbpdlobjbpchaaDoorP4
set_option linter.unusedSimpArgs false
set_option linter.unusedVariables false
set_option linter.unusedSectionVars false
section
namespace Go.Ab.T
set_option maxRecDepth 8000
set_option linter.unusedSimpArgs false
set_option linter.unusedVariables false
/-! ### The least number of tears without which a set can be there -/
theorem choice_snoc (x : Mk) : ∀ (T : List Mk) (d u : Nat), Choice (T ++ [x]) d u ↔ (∃ b u', isB x b ∧ Choice T d u' ∧ u = u' ||| b) ∨ ∃ d', d = d' + 1 ∧ Choice T d' u
  | [], d, u => by
    constructor
    · rintro (⟨b, u', h1, ⟨h2, h3⟩, rfl⟩ | ⟨d', rfl, h1, h2⟩)
      · exact Or.inl ⟨b, 0, h1, ⟨h2, rfl⟩, by rw [h3, Nat.or_zero, Nat.zero_or]⟩
      · exact Or.inr ⟨d', rfl, h1, h2⟩
    · rintro (⟨b, u', h1, ⟨h2, h3⟩, rfl⟩ | ⟨d', rfl, h1, h2⟩)
      · exact Or.inl ⟨b, 0, h1, ⟨h2, rfl⟩, by rw [h3, Nat.or_zero, Nat.zero_or]⟩
      · exact Or.inr ⟨d', rfl, h1, h2⟩
  | m :: T, d, u => by
    constructor
    · rintro (⟨b, u', h1, h2, rfl⟩ | ⟨d', rfl, h2⟩)
      · rcases (choice_snoc x T d u').1 h2 with ⟨b', u'', h3, h4, rfl⟩ | ⟨d', rfl, h3⟩
        · exact Or.inl ⟨b', b ||| u'', h3, Or.inl ⟨b, u'', h1, h4, rfl⟩, by rw [Nat.or_assoc]⟩
        · exact Or.inr ⟨d', rfl, Or.inl ⟨b, u', h1, h3, rfl⟩⟩
      · rcases (choice_snoc x T d' u).1 h2 with ⟨b', u'', h3, h4, rfl⟩ | ⟨d'', rfl, h3⟩
        · exact Or.inl ⟨b', u'', h3, Or.inr ⟨d', rfl, h4⟩, rfl⟩
        · exact Or.inr ⟨d'' + 1, rfl, Or.inr ⟨d'', rfl, h3⟩⟩
    · rintro (⟨b, u', h1, h2, rfl⟩ | ⟨d', rfl, h2⟩)
      · rcases h2 with ⟨b', u'', h3, h4, rfl⟩ | ⟨d', rfl, h3⟩
        · exact Or.inl ⟨b', u'' ||| b, h3, (choice_snoc x T d _).2 (Or.inl ⟨b, u'', h1, h4, rfl⟩), by rw [Nat.or_assoc]⟩
        · exact Or.inr ⟨d', rfl, (choice_snoc x T d' _).2 (Or.inl ⟨b, u', h1, h3, rfl⟩)⟩
      · rcases h2 with ⟨b', u'', h3, h4, rfl⟩ | ⟨d'', rfl, h3⟩
        · exact Or.inl ⟨b', u'', h3, (choice_snoc x T _ _).2 (Or.inr ⟨d', rfl, h4⟩), rfl⟩
        · exact Or.inr ⟨d'' + 1, rfl, (choice_snoc x T _ _).2 (Or.inr ⟨d'', rfl, h3⟩)⟩
theorem andn_or (L g b : Nat) (hL : L ≤ 16) : andn (andn (allN L) g) b = andn (allN L) (g ||| b) := by
  apply Nat.eq_of_testBit_eq
  intro i
  by_cases hi : i < 16
  · rw [andn_bit _ _ _ hi, andn_bit _ _ _ hi, andn_bit _ _ _ hi, Nat.testBit_or]
    cases (allN L).testBit i <;> cases g.testBit i <;> cases b.testBit i <;> rfl
  · have h1 : ∀ y, (andn (allN L) y).testBit i = false := by
      intro y
      unfold andn allN
      rw [Nat.testBit_and, Nat.testBit_two_pow_sub_one, decide_eq_false (show ¬ i < L by omega)]; rfl
    have h2 : ∀ a y, a.testBit i = false → (andn a y).testBit i = false := by
      intro a y h; unfold andn; rw [Nat.testBit_and, h]; rfl
    rw [h2 _ _ (h1 g), h1]
theorem andn_le (a b : Nat) : andn a b ≤ a := Nat.and_le_left
theorem andn_lt' {a b N : Nat} (h : a < N) : andn a b < N := Nat.lt_of_le_of_lt (andn_le a b) h
theorem andn_zero (a : Nat) (h : a < 65536) : andn a 0 = a := by
  apply Nat.eq_of_testBit_eq
  intro i
  by_cases hi : i < 16
  · rw [andn_bit _ _ _ hi]; simp
  · have : a.testBit i = false := Nat.testBit_lt_two_pow (Nat.lt_of_lt_of_le h (two_pow_le (a := 16) (b := i) (by omega)))
    unfold andn; rw [Nat.testBit_and, this]; rfl
structure CostOK (L : Nat) (T : List Mk) (c : Nat → Nat) : Prop where
  le : ∀ s, s < 2 ^ L → c s ≤ 11
  att : ∀ s, s < 2 ^ L → c s < 11 → ∃ g, Choice T (c s) g ∧ s = andn (allN L) g
  low : ∀ d g, Choice T d g → d ≤ 10 → c (andn (allN L) g) ≤ d
theorem CostOK.nil (L : Nat) (hL : L ≤ 16) : CostOK L [] fun s => if s < allN L then 11 else 0 := by
  have h1 := allN_lt L hL
  have h2 : allN L = 2 ^ L - 1 := rfl
  have h3 := Nat.two_pow_pos L
  refine ⟨fun s _ => by split <;> omega, fun s hs hc => ?_, fun d g hg hd => ?_⟩
  · skip
    split at hc
    · omega
    · rename_i h; rw [if_neg h]
      exact ⟨0, ⟨rfl, rfl⟩, by rw [andn_zero _ h1]; omega⟩
  · obtain ⟨rfl, rfl⟩ := hg
    rw [andn_zero _ h1, if_neg (by omega)]; exact Nat.le_refl 0
/-- What is known of the next costs, when some pairs of a set and a block are done. -/
structure NX (c : Nat → Nat) (x : Mk) (N : Nat) (n : Nat → Nat) (P : Nat → Nat → Prop) : Prop where
  le : ∀ j, j < N → n j ≤ 11
  one : ∀ j, j < N → n j ≤ c j + 1
  att : ∀ j, j < N → n j < 11 → n j = c j + 1 ∨ ∃ s b, s < N ∧ isB x b ∧ j = andn s b ∧ n j = c s
  did : ∀ s b, P s b → n (andn s b) ≤ c s
theorem NX.mono {c : Nat → Nat} {x : Mk} {N : Nat} {n : Nat → Nat} {P Q : Nat → Nat → Prop} (h : NX c x N n P) (hq : ∀ s b, Q s b → P s b) : NX c x N n Q :=
  ⟨h.le, h.one, h.att, fun s b hp => h.did s b (hq s b hp)⟩
theorem NX.init (c : Nat → Nat) (x : Mk) (N : Nat) : NX c x N (fun j => min 11 (c j + 1)) fun _ _ => False :=
  ⟨fun j _ => Nat.min_le_left _ _, fun j _ => Nat.min_le_right _ _, fun j _ h => Or.inl (by omega), fun _ _ h => h.elim⟩
def lowN (n : Nat → Nat) (o v : Nat) : Nat → Nat := fun j => if j = o then v else n j
theorem NX.upd {c : Nat → Nat} {x : Mk} {N : Nat} {n : Nat → Nat} {P : Nat → Nat → Prop} (h : NX c x N n P) {s b : Nat} (hs : s < N) (hb : isB x b) (h11 : c s ≤ 11) : NX c x N (lowN n (andn s b) (min (n (andn s b)) (c s))) fun s' b' => P s' b' ∨ (s' = s ∧ b' = b) := by
  refine ⟨fun j hj => ?_, fun j hj => ?_, fun j hj hlt => ?_, fun s' b' hp => ?_⟩
  · have := h.le j hj
    unfold lowN; split
    · omega
    · exact this
  · have := h.one j hj
    unfold lowN; split
    · rename_i he; subst he; omega
    · exact this
  · unfold lowN at hlt ⊢
    split
    · rename_i he
      rw [if_pos he] at hlt
      by_cases hc : n (andn s b) ≤ c s
      · rw [Nat.min_eq_left hc] at hlt ⊢
        rw [← he] at hlt ⊢
        exact h.att j hj hlt
      · rw [Nat.min_eq_right (by omega)]
        exact Or.inr ⟨s, b, hs, hb, he, rfl⟩
    · rename_i he
      rw [if_neg he] at hlt
      exact h.att j hj hlt
  · unfold lowN
    rcases hp with hp | ⟨rfl, rfl⟩
    · have := h.did s' b' hp
      split
      · rename_i he; rw [he] at this; omega
      · exact this
    · rw [if_pos rfl]; exact Nat.min_le_right _ _
theorem CostOK.step {L : Nat} {T : List Mk} {c n : Nat → Nat} {x : Mk} (hL : L ≤ 16) (hT : T.length ≤ 10) (h : CostOK L T c) (hn : NX c x (2 ^ L) n fun s b => s < 2 ^ L ∧ c s < 11 ∧ isB x b) : CostOK L (T ++ [x]) n := by
  have hall : ∀ g, andn (allN L) g < 2 ^ L := fun g => andn_lt' (by unfold allN; have := Nat.two_pow_pos L; omega)
  refine ⟨hn.le, fun s hs hlt => ?_, fun d g hg hd => ?_⟩
  · rcases hn.att s hs hlt with h1 | ⟨s0, b, h1, h2, rfl, h4⟩
    · obtain ⟨g, h2, h3⟩ := h.att s hs (by omega)
      exact ⟨g, (choice_snoc x T _ _).2 (Or.inr ⟨c s, h1, h2⟩), h3⟩
    · rw [h4] at hlt ⊢
      obtain ⟨g, h5, h6⟩ := h.att s0 h1 hlt
      refine ⟨g ||| b, (choice_snoc x T _ _).2 (Or.inl ⟨b, g, h2, h5, rfl⟩), ?_⟩
      rw [← andn_or L g b hL, ← h6]
  · rcases (choice_snoc x T d g).1 hg with ⟨b, g', h1, h2, rfl⟩ | ⟨d', rfl, h1⟩
    · have h3 := h.low d g' h2 hd
      have h4 := hn.did (andn (allN L) g') b ⟨hall g', by omega, h1⟩
      rw [andn_or L g' b hL] at h4
      omega
    · have h3 := h.low d' g h1 (by omega)
      have h4 := hn.one _ (hall g)
      omega
/-- The costs with all marks. -/
def costF (c : Nat → Nat) (l : List Mk) (s : Nat) : Nat := min 11 (c s + untrueN l s)
end Go.Ab.T
end

section
namespace Go.Ab.T
set_option maxRecDepth 8000
set_option linter.unusedSimpArgs false
set_option linter.unusedVariables false
set_option maxHeartbeats 1000000
theorem block_ok (a b : Nat) (hb : b < 30) (ha : a ≤ b + 1) : RV ft 83 [I64 a, I64 b] (I64 (blkN a (b + 1 - a) : Nat)) := by
  refine RV_of ft83 rfl ?_
  simp only [c83, r83]
  simp only [go_sem, Nat.reduceEqDiff, Nat.reduceAdd, Nat.reduceLT, Nat.reduceLeDiff, reduceIte, and_self, decide_true, decide_false, beq_self_eq_true]
  refine WL_inv (α := Nat) (fun i e m => e 1 = I64 b ∧ e 6 = I64 i ∧ e 5 = I64 (blkN a (i - a) : Nat) ∧ a ≤ i ∧ i ≤ b + 1) (fun i => b + 1 - i) a ?_ ?_
  · simp only [go_sem, Nat.reduceEqDiff, Nat.reduceAdd, Nat.reduceLT, Nat.reduceLeDiff, reduceIte, and_self, decide_true, decide_false, beq_self_eq_true]
    exact ⟨trivial, trivial, by rw [Nat.sub_self, blkN_zero]; rfl, by omega, by omega⟩
  · rintro i e m ⟨h1, h6, h5, hai, hib⟩
    by_cases hle : i ≤ b
    · have hw : IntKind.i64.wrap ((i : Int) + 1) = ((i + 1 : Nat) : Int) := by rw [wrap_i64 _ (by omega) (by omega)]; rfl
      have ei : IntKind.u64.wrap (i : Int) = (i : Int) := wrap_u64 _ (by omega) (by omega)
      have hl1 : blkN a (i - a) < 2 ^ 30 := blk_lt (by omega)
      have hl2 := two_pow_le (a := i) (b := 30) (by omega)
      have eo : orI .i64 ((blkN a (i - a) : Nat) : Int) ((2 ^ i : Nat) : Int) = ((blkN a (i + 1 - a) : Nat) : Int) := by
        rw [orI_nat64 _ _ (by omega) (by omega), show i + 1 - a = (i - a) + 1 by omega, blkN_succ, show a + (i - a) = i by omega]
      simp only [go_sem, Nat.reduceEqDiff, Nat.reduceAdd, Nat.reduceLT, Nat.reduceLeDiff, reduceIte, and_self, decide_true, decide_false, beq_self_eq_true, h1, h5, h6, decide_eq_true (show (i : Int) ≤ (b : Int) by omega), ei, decide_eq_false (show ¬ (i : Int) < 0 by omega), shl1_i64 i (by omega), eo, hw]
      refine Nx_of (i + 1) (by omega) ?_
      simp only [go_sem, Nat.reduceEqDiff, Nat.reduceAdd, Nat.reduceLT, Nat.reduceLeDiff, reduceIte, and_self, decide_true, decide_false, beq_self_eq_true, h1]
      exact ⟨trivial, trivial, trivial, by omega, by omega⟩
    · obtain rfl : i = b + 1 := by omega
      simp only [go_sem, Nat.reduceEqDiff, Nat.reduceAdd, Nat.reduceLT, Nat.reduceLeDiff, reduceIte, and_self, decide_true, decide_false, beq_self_eq_true, h1, h5, h6, decide_eq_false (show ¬ ((b + 1 : Nat) : Int) ≤ (b : Int) by omega)]
def encC (N : Nat) (x : Nat → Nat) : List AV := (List.range N).map fun j => I64 (x j : Nat)
theorem encC_get (N : Nat) (x : Nat → Nat) (k : Nat) (h : k < N) : (encC N x)[k]? = some (I64 (x k : Nat)) := by simp [encC, h]
theorem encC_len (N : Nat) (x : Nat → Nat) : (encC N x).length = N := by simp [encC]
theorem encC_congr {N : Nat} {x y : Nat → Nat} (h : ∀ j, j < N → x j = y j) : encC N x = encC N y :=
  List.map_congr_left fun j hj => by rw [h j (List.mem_range.1 hj)]
theorem encC_set (N : Nat) (x : Nat → Nat) (k v : Nat) : (encC N x).set k (I64 v) = encC N (lowN x k v) := by
  apply List.ext_getElem?
  intro i
  by_cases hi : i = k
  · subst hi
    by_cases hl : i < N
    · rw [List.getElem?_set_self (by rw [encC_len]; exact hl), encC_get _ _ _ hl]; simp [lowN]
    · rw [List.getElem?_eq_none (by rw [List.length_set, encC_len]; omega), List.getElem?_eq_none (by rw [encC_len]; omega)]
  · rw [List.getElem?_set_ne (Ne.symm hi)]
    by_cases hl : i < N
    · rw [encC_get _ _ _ hl, encC_get _ _ _ hl]; simp [lowN, hi]
    · rw [List.getElem?_eq_none (by rw [encC_len]; omega), List.getElem?_eq_none (by rw [encC_len]; omega)]
theorem encC_zero (N : Nat) : List.replicate N (AV.int .i64 0) = encC N fun _ => 0 := by
  unfold encC; rw [List.map_const', List.length_range]; rfl
theorem encC_hd (N : Nat) (x : Nat → Nat) : hdSz (encC N x) 1 = true := hdSz_map' _ 1 _ fun _ => rfl
/-- A slot is stored, and read. -/
theorem encC_snap (m : Mem) (k N : Nat) (x : Nat → Nat) : (encC N x).map (snap m (k + 1)) = encC N x := by
  unfold encC; rw [List.map_map]; rfl
theorem idx_ref (blks : List Blk) (toks : List (Nat × Nat)) (id N k : Nat) (es : List AV) (hb : blks[id]? = some (.live es 1)) (hk : k < N) : idxAt ⟨blks, toks⟩ (.ref id 0 N) (I64 k) 1 = some (.ptr id k 0) := by
  rw [idxAt_ref, lsz_eq, Mem.blks, hb, if_pos ⟨⟨by omega, by omega⟩, rfl⟩, Int.toNat_natCast, Nat.zero_add]
theorem andNotN (a b : Nat) (ha : a < 65536) (hb : b < 65536) : andNotI .i64 (a : Int) (b : Int) = ((andn a b : Nat) : Int) := by
  rw [andNot64 _ _ (by omega) (by omega)]
  congr 1
  apply Nat.eq_of_testBit_eq
  intro i
  have big : ∀ y, y < 65536 → 16 ≤ i → y.testBit i = false := fun y hy hi => Nat.testBit_lt_two_pow (Nat.lt_of_lt_of_le hy (two_pow_le (a := 16) (b := i) hi))
  by_cases hi : i < 16
  · rw [andn_bit _ _ _ hi, Nat.testBit_and, Nat.testBit_xor, show (18446744073709551615 : Nat) = 2 ^ 64 - 1 from rfl, Nat.testBit_two_pow_sub_one, decide_eq_true (show i < 64 by omega)]
    cases b.testBit i <;> simp
  · unfold andn
    rw [Nat.testBit_and, Nat.testBit_and, big a ha (by omega)]; rfl
end Go.Ab.T
end

section
namespace Go.Ab.T
set_option maxRecDepth 8000
set_option linter.unusedSimpArgs false
set_option linter.unusedVariables false
set_option maxHeartbeats 4000000
theorem nat_last {a b d : Nat} (h1 : a + d ≤ b + 1) (h2 : ¬ a + d ≤ b) : d = b + 1 - a := by omega
theorem dec_le' {a b : Nat} (h : a ≤ b) : decide ((a : Int) ≤ (b : Int)) = true := decide_eq_true (by omega)
theorem enc0 : (AV.int .i64 0) = I64 ((0 : Nat) : Int) := rfl
/-- What the memory holds while the costs with one more tear are put together. -/
structure MC (r : Rl) (x : Mk) (N : Nat) (c n : Nat → Nat) (io im nx : Nat) (blks : List Blk) : Prop where
  b0 : blks[0]? = some (.live [encR r] 2)
  bo : blks[io]? = some (.live (encC N c) 1)
  bm : blks[im]? = some (.live [encM x] 5)
  bn : blks[nx]? = some (.live (encC N n) 1)
  n0 : nx ≠ 0
  no : nx ≠ io
  nm : nx ≠ im
theorem MC.set {r : Rl} {x : Mk} {N : Nat} {c n n' : Nat → Nat} {io im nx : Nat} {blks : List Blk} (h : MC r x N c n io im nx blks) : MC r x N c n' io im nx (blks.set nx (.live (encC N n') 1)) :=
  ⟨(List.getElem?_set_ne h.n0).trans h.b0, (List.getElem?_set_ne h.no).trans h.bo, (List.getElem?_set_ne h.nm).trans h.bm, List.getElem?_set_self (List.getElem?_eq_some_iff.1 h.bn).1, h.n0, h.no, h.nm⟩
theorem MC.congr {r : Rl} {x : Mk} {N : Nat} {c n n' : Nat → Nat} {io im nx : Nat} {blks : List Blk} (h : MC r x N c n io im nx blks) (he : ∀ j, j < N → n j = n' j) : MC r x N c n' io im nx blks :=
  ⟨h.b0, h.bo, h.bm, by rw [h.bn, encC_congr he], h.n0, h.no, h.nm⟩
theorem costs_ex (r : Rl) (L : Nat) (h : Ok r L) : ∃ v, RV ft 55 [encR r] v ∧ ∃ c, CostOK L (tearsL r) c ∧ v = .sl (encC (2 ^ L) (costF c (claimsL r))) .unk := by
  have h1 := h.one
  have h9 := h.nine
  have h10 := h.ten
  have hP := Nat.two_pow_pos L
  have hP9 := two_pow_le (a := L) (b := 9) (by omega)
  have hal : allN L = 2 ^ L - 1 := rfl
  refine RV_ex ft55 rfl _ ?_
  simp only [c55, r55]
  have eL : IntKind.u64.wrap (L : Int) = (L : Int) := wrap_u64 _ (by omega) (by omega)
  have eS : IntKind.i64.wrap (((2 ^ L : Nat) : Int) - 1) = ((allN L : Nat) : Int) := by
    rw [wrap_i64 _ (by omega) (by omega)]; omega
  have eN : IntKind.i64.wrap (((allN L : Nat) : Int) + 1) = ((2 ^ L : Nat) : Int) := by
    rw [wrap_i64 _ (by omega) (by omega)]; omega
  have hmk : decide ((0 ≤ ((2 ^ L : Nat) : Int) ∧ True) ∧ 2 ^ L * 9 ≤ limit ∧ True) = true := decide_eq_true ⟨⟨by omega, trivial⟩, by unfold limit; omega, trivial⟩
  simp only [go_sem, Nat.reduceEqDiff, Nat.reduceAdd, Nat.reduceLT, Nat.reduceLeDiff, reduceIte, and_self, decide_true, decide_false, beq_self_eq_true, h.feet, eL, decide_eq_false (show ¬ (L : Int) < 0 by omega), shl1_i64 L (by omega), eS, eN]
  simp only [go_sem, Nat.reduceEqDiff, Nat.reduceAdd, Nat.reduceLT, Nat.reduceLeDiff, reduceIte, and_self, decide_true, decide_false, beq_self_eq_true, hmk, encC_zero, Int.toNat_natCast]
  refine WL_inv (α := Nat) (fun i e m => e 1 = .ptr 0 0 0 ∧ e 3 = I64 (allN L : Nat) ∧ e 4 = .ref 1 0 (2 ^ L) ∧ e 5 = I64 i ∧ i ≤ allN L ∧ m = ⟨[.live [encR r] 2, .live (encC (2 ^ L) fun j => if j < i then 11 else 0) 1], []⟩) (fun i => allN L - i) 0 ?_ ?_
  · simp only [go_sem, Nat.reduceEqDiff, Nat.reduceAdd, Nat.reduceLT, Nat.reduceLeDiff, reduceIte, and_self, decide_true, decide_false, beq_self_eq_true]
    exact ⟨trivial, trivial, trivial, rfl, by omega, rfl⟩
  rintro i e m ⟨g1, g3, g4, g5, hi, rfl⟩
  by_cases hlt : i < allN L
  · have hw : IntKind.i64.wrap ((i : Int) + 1) = ((i + 1 : Nat) : Int) := by rw [wrap_i64 _ (by omega) (by omega)]; rfl
    have hx := idx_ref [.live [encR r] 2, .live (encC (2 ^ L) fun j => if j < i then 11 else 0) 1] [] 1 (2 ^ L) i _ rfl (show i < 2 ^ L by omega)
    have e11 : (AV.int .i64 11) = I64 ((11 : Nat) : Int) := rfl
    simp only [go_sem, Nat.reduceEqDiff, Nat.reduceAdd, Nat.reduceLT, Nat.reduceLeDiff, reduceIte, and_self, decide_true, decide_false, beq_self_eq_true, g1, g3, g4, g5, dec_lt hlt, hx, encC_get (2 ^ L) _ i (by omega), e11, encC_set, hw]
    refine Nx_of (i + 1) (by omega) ?_
    simp only [go_sem, Nat.reduceEqDiff, Nat.reduceAdd, Nat.reduceLT, Nat.reduceLeDiff, reduceIte, and_self, decide_true, decide_false, beq_self_eq_true, g1, g3, g4]
    refine ⟨trivial, trivial, trivial, trivial, by omega, ?_⟩
    have : encC (2 ^ L) (lowN (fun j => if j < i then 11 else 0) i 11) = encC (2 ^ L) fun j => if j < i + 1 then 11 else 0 := encC_congr fun j hj => by
      unfold lowN
      by_cases h2 : j = i
      · subst h2; simp
      · rw [if_neg h2]
        show (if j < i then 11 else 0) = _
        by_cases h3 : j < i
        · rw [if_pos h3, if_pos (by omega)]
        · rw [if_neg h3, if_neg (by omega)]
    rw [this]
  obtain rfl : i = allN L := by omega
  simp only [go_sem, Nat.reduceEqDiff, Nat.reduceAdd, Nat.reduceLT, Nat.reduceLeDiff, reduceIte, and_self, decide_true, decide_false, beq_self_eq_true, g1, g3, g4, g5, dec_ge (Nat.le_refl _)]
  refine WL_inv (α := Nat × List Mk) (fun a e mm => e 1 = .ptr 0 0 0 ∧ e 3 = I64 (allN L : Nat) ∧ e 6 = I64 a.1 ∧ r.marks.drop a.1 = a.2 ∧ a.1 ≤ r.marks.length ∧ mm.blks[0]? = some (.live [encR r] 2) ∧
    ∃ io c, e 4 = .ref io 0 (2 ^ L) ∧ 0 < io ∧ mm.blks[io]? = some (.live (encC (2 ^ L) c) 1) ∧ CostOK L ((r.marks.take a.1).filter isTear) c) (fun a => r.marks.length - a.1) (0, r.marks) ?_ ?_
  · simp only [go_sem, Nat.reduceEqDiff, Nat.reduceAdd, Nat.reduceLT, Nat.reduceLeDiff, reduceIte, and_self, decide_true, decide_false, beq_self_eq_true, g1, g3, g4]
    exact ⟨trivial, trivial, rfl, trivial, by omega, trivial, 1, _, rfl, by omega, rfl, CostOK.nil L (by omega)⟩
  rintro ⟨k, ms⟩ e ⟨blks, toks⟩ ⟨g1, g3, g6, hd, hk, hb0, io, c, g4, hio, hbo, hc⟩
  dsimp only at g6 hd hk hb0 hbo hc
  rcases ms with _ | ⟨x, ms⟩
  · have hk' := drop_nil hd
    simp only [go_sem, Nat.reduceEqDiff, Nat.reduceAdd, Nat.reduceLT, Nat.reduceLeDiff, reduceIte, and_self, decide_true, decide_false, beq_self_eq_true, g1, g3, g4, g6, hb0, List.length_map, dec_ge hk']
    have hcT : CostOK L (tearsL r) c := by
      rw [List.take_of_length_le hk'] at hc; exact hc
    refine WL_inv (α := Nat × List Mk) (fun a e mm => e 1 = .ptr 0 0 0 ∧ e 3 = I64 (allN L : Nat) ∧ e 4 = .ref io 0 (2 ^ L) ∧ e 14 = I64 a.1 ∧ r.marks.drop a.1 = a.2 ∧ a.1 ≤ r.marks.length ∧ mm.blks[0]? = some (.live [encR r] 2) ∧
      mm.blks[io]? = some (.live (encC (2 ^ L) (costF c ((r.marks.take a.1).filter fun m => !isTear m))) 1)) (fun a => r.marks.length - a.1) (0, r.marks) ?_ ?_
    · simp only [go_sem, Nat.reduceEqDiff, Nat.reduceAdd, Nat.reduceLT, Nat.reduceLeDiff, reduceIte, and_self, decide_true, decide_false, beq_self_eq_true, g1, g3, g4]
      refine ⟨trivial, trivial, trivial, rfl, trivial, by omega, hb0, ?_⟩
      rw [hbo]
      congr 2
      exact encC_congr fun j hj => by
        have := hcT.le j hj
        show c j = min 11 (c j + 0)
        omega
    rintro ⟨k2, ms⟩ e ⟨blks, toks⟩ ⟨g1, g3, g4, g14, hd, hk2, hb0, hbo⟩
    dsimp only at g14 hd hk2 hb0 hbo
    rcases ms with _ | ⟨x, ms⟩
    · have hk' := drop_nil hd
      rw [List.take_of_length_le hk'] at hbo
      simp only [go_sem, Nat.reduceEqDiff, Nat.reduceAdd, Nat.reduceLT, Nat.reduceLeDiff, reduceIte, and_self, decide_true, decide_false, beq_self_eq_true, g1, g3, g4, g14, hb0, hbo, List.length_map, dec_ge hk', Mem.elems, encC_len]
      refine ⟨c, hcT, ?_⟩
      rw [if_pos (by omega), List.take_of_length_le (by rw [encC_len]; omega), snEs_some, encC_snap]
      rfl
    obtain ⟨hg, hd', hlt2⟩ := drop_cons hd
    have hw : IntKind.i64.wrap ((k2 : Int) + 1) = ((k2 + 1 : Nat) : Int) := by rw [wrap_i64 _ (by omega) (by omega)]; rfl
    have htk : r.marks.take (k2 + 1) = r.marks.take k2 ++ [x] := by
      rw [List.take_add_one, hg]; rfl
    simp only [go_sem, Nat.reduceEqDiff, Nat.reduceAdd, Nat.reduceLT, Nat.reduceLeDiff, reduceIte, and_self, decide_true, decide_false, beq_self_eq_true, g1, g3, g4, g14, hb0, List.length_map, dec_lt hlt2]
    cases ht : (x.kind != 1)
    case false =>
      have hit : isTear x = true := by unfold isTear; simpa [bne] using ht
      refine WL_inv (α := Unit) (fun _ e mm => e 1 = .ptr 0 0 0 ∧ e 3 = I64 (allN L : Nat) ∧ e 4 = .ref io 0 (2 ^ L) ∧ e 14 = I64 k2 ∧ e 15 = I64 0 ∧ mm = ⟨blks, toks⟩) (fun _ => 0) () ?_ ?_
      · simp only [go_sem, Nat.reduceEqDiff, Nat.reduceAdd, Nat.reduceLT, Nat.reduceLeDiff, reduceIte, and_self, decide_true, decide_false, beq_self_eq_true, g1, g3, g4, g14]
      rintro _ e _ ⟨g1, g3, g4, g14, g15, rfl⟩
      simp only [go_sem, Nat.reduceEqDiff, Nat.reduceAdd, Nat.reduceLT, Nat.reduceLeDiff, reduceIte, and_self, decide_true, decide_false, beq_self_eq_true, g1, g3, g4, g14, g15, hb0, decide_eq_true (show (0 : Int) ≤ ((allN L : Nat) : Int) by omega), List.getElem?_map, hg, dec_nn, Int.toNat_natCast, ht]
      simp only [go_sem, Nat.reduceEqDiff, Nat.reduceAdd, Nat.reduceLT, Nat.reduceLeDiff, reduceIte, and_self, decide_true, decide_false, beq_self_eq_true, g14, hw]
      refine Nx_of (k2 + 1, ms) (by simp; omega) ?_
      simp only [go_sem, Nat.reduceEqDiff, Nat.reduceAdd, Nat.reduceLT, Nat.reduceLeDiff, reduceIte, and_self, decide_true, decide_false, beq_self_eq_true, g1, g3, g4]
      refine ⟨trivial, trivial, trivial, trivial, hd', by omega, hb0, ?_⟩
      rw [htk, List.filter_append, List.filter_cons, hit]
      simpa using hbo
    case true =>
      have hnt : isTear x = false := by unfold isTear; simpa [bne] using ht
      obtain ⟨l, hl⟩ : ∃ l, l = (r.marks.take k2).filter fun m => !isTear m := ⟨_, rfl⟩
      have hl2 : (r.marks.take (k2 + 1)).filter (fun m => !isTear m) = l ++ [x] := by
        rw [htk, List.filter_append, List.filter_cons, hnt, hl]; rfl
      rw [← hl] at hbo
      have hun : ∀ s, untrueN (l ++ [x]) s = untrueN l s + if claimT x s then 0 else 1 := fun s => by
        rw [untrue_app, untrue_cons]; rfl
      refine WL_inv (α := Nat) (fun s e mm => e 1 = .ptr 0 0 0 ∧ e 3 = I64 (allN L : Nat) ∧ e 4 = .ref io 0 (2 ^ L) ∧ e 14 = I64 k2 ∧ e 15 = I64 s ∧ s ≤ 2 ^ L ∧ mm.blks[0]? = some (.live [encR r] 2) ∧
        mm.blks[io]? = some (.live (encC (2 ^ L) fun j => if j < s then costF c (l ++ [x]) j else costF c l j) 1)) (fun s => 2 ^ L - s) 0 ?_ ?_
      · simp only [go_sem, Nat.reduceEqDiff, Nat.reduceAdd, Nat.reduceLT, Nat.reduceLeDiff, reduceIte, and_self, decide_true, decide_false, beq_self_eq_true, g1, g3, g4, g14]
        exact ⟨trivial, trivial, trivial, trivial, rfl, by omega, hb0, by rw [hbo]; rfl⟩
      rintro s e ⟨blks, toks⟩ ⟨g1, g3, g4, g14, g15, hs, hb0, hbo⟩
      dsimp only at hb0 hbo
      by_cases hsl : s < 2 ^ L
      · have hws : IntKind.i64.wrap ((s : Int) + 1) = ((s + 1 : Nat) : Int) := by rw [wrap_i64 _ (by omega) (by omega)]; rfl
        have hH := Holds_ok s L x h1 (by omega) hsl (h.part x (List.mem_of_getElem? hg))
        have hx := idx_ref blks toks io (2 ^ L) s _ hbo hsl
        have hgt : (encC (2 ^ L) fun j => if j < s then costF c (l ++ [x]) j else costF c l j)[s]? = some (I64 (costF c l s : Nat)) := by
          rw [encC_get _ _ _ hsl, if_neg (Nat.lt_irrefl s)]
        have hcF : costF c l s ≤ 11 := Nat.min_le_left _ _
        have hwc : IntKind.i64.wrap (((costF c l s : Nat) : Int) + 1) = ((costF c l s + 1 : Nat) : Int) := by rw [wrap_i64 _ (by omega) (by omega)]; rfl
        have hmn : min (11 : Int) ((costF c l s + 1 : Nat) : Int) = ((min 11 (costF c l s + 1) : Nat) : Int) := by omega
        simp only [go_sem, Nat.reduceEqDiff, Nat.reduceAdd, Nat.reduceLT, Nat.reduceLeDiff, reduceIte, and_self, decide_true, decide_false, beq_self_eq_true, g1, g3, g4, g14, g15, hb0, decide_eq_true (show (s : Int) ≤ ((allN L : Nat) : Int) by omega), List.getElem?_map, hg, dec_nn, Int.toNat_natCast, ht, h.feet, WB76, WVH_eq hH, true_and]
        cases hcx : claimT x s
        case true =>
          simp only [go_sem, Nat.reduceEqDiff, Nat.reduceAdd, Nat.reduceLT, Nat.reduceLeDiff, reduceIte, and_self, decide_true, decide_false, beq_self_eq_true, Bool.not_true, g15, hws]
          refine Nx_of (s + 1) (by omega) ?_
          simp only [go_sem, Nat.reduceEqDiff, Nat.reduceAdd, Nat.reduceLT, Nat.reduceLeDiff, reduceIte, and_self, decide_true, decide_false, beq_self_eq_true, g1, g3, g4, g14]
          refine ⟨trivial, trivial, trivial, trivial, trivial, by omega, hb0, ?_⟩
          rw [hbo]; congr 2
          exact encC_congr fun j hj => by
            by_cases h2 : j = s
            · subst h2
              rw [if_neg (Nat.lt_irrefl j), if_pos (by omega)]
              unfold costF; rw [hun, hcx]; rfl
            · by_cases h3 : j < s
              · rw [if_pos h3, if_pos (by omega)]
              · rw [if_neg h3, if_neg (by omega)]
        case false =>
          simp only [go_sem, Nat.reduceEqDiff, Nat.reduceAdd, Nat.reduceLT, Nat.reduceLeDiff, reduceIte, and_self, decide_true, decide_false, beq_self_eq_true, Bool.not_false, g4, g15, hx, hbo, hgt, hwc, hmn, encC_set, hws]
          refine Nx_of (s + 1) (by omega) ?_
          simp only [go_sem, Nat.reduceEqDiff, Nat.reduceAdd, Nat.reduceLT, Nat.reduceLeDiff, reduceIte, and_self, decide_true, decide_false, beq_self_eq_true, g1, g3, g4, g14]
          refine ⟨trivial, trivial, trivial, trivial, trivial, by omega, (List.getElem?_set_ne (by omega)).trans hb0, ?_⟩
          rw [List.getElem?_set_self (List.getElem?_eq_some_iff.1 hbo).1]; congr 2
          exact encC_congr fun j hj => by
            unfold lowN
            by_cases h2 : j = s
            · subst h2
              rw [if_pos rfl, if_pos (by omega)]
              unfold costF; rw [hun, hcx]
              simp only [Bool.false_eq_true, if_false]; omega
            · rw [if_neg h2]
              show (if j < s then costF c (l ++ [x]) j else costF c l j) = _
              by_cases h3 : j < s
              · rw [if_pos h3, if_pos (by omega)]
              · rw [if_neg h3, if_neg (by omega)]
      · obtain rfl : s = 2 ^ L := by omega
        simp only [go_sem, Nat.reduceEqDiff, Nat.reduceAdd, Nat.reduceLT, Nat.reduceLeDiff, reduceIte, and_self, decide_true, decide_false, beq_self_eq_true, g1, g3, g4, g14, g15, decide_eq_false (show ¬ ((2 ^ L : Nat) : Int) ≤ ((allN L : Nat) : Int) by omega), hw]
        refine Nx_of (k2 + 1, ms) (by simp; omega) ?_
        simp only [go_sem, Nat.reduceEqDiff, Nat.reduceAdd, Nat.reduceLT, Nat.reduceLeDiff, reduceIte, and_self, decide_true, decide_false, beq_self_eq_true, g1, g3, g4]
        refine ⟨trivial, trivial, trivial, trivial, hd', by omega, hb0, ?_⟩
        rw [hl2, hbo]; congr 2
        exact encC_congr fun j hj => by rw [if_pos hj]
  · obtain ⟨hg, hd', hlt⟩ := drop_cons hd
    have hw : IntKind.i64.wrap ((k : Int) + 1) = ((k + 1 : Nat) : Int) := by rw [wrap_i64 _ (by omega) (by omega)]; rfl
    have htk : r.marks.take (k + 1) = r.marks.take k ++ [x] := by
      rw [List.take_add_one, hg]; rfl
    simp only [go_sem, Nat.reduceEqDiff, Nat.reduceAdd, Nat.reduceLT, Nat.reduceLeDiff, reduceIte, and_self, decide_true, decide_false, beq_self_eq_true, g1, g3, g4, g6, hb0, List.length_map, dec_lt hlt, dec_nn, Int.toNat_natCast, List.getElem?_map, hg]
    cases ht : (x.kind != 1)
    case true =>
      have hnt : isTear x = false := by unfold isTear; simpa [bne] using ht
      simp only [go_sem, Nat.reduceEqDiff, Nat.reduceAdd, Nat.reduceLT, Nat.reduceLeDiff, reduceIte, and_self, decide_true, decide_false, beq_self_eq_true, g6, hw]
      refine Nx_of (k + 1, ms) (by simp; omega) ?_
      simp only [go_sem, Nat.reduceEqDiff, Nat.reduceAdd, Nat.reduceLT, Nat.reduceLeDiff, reduceIte, and_self, decide_true, decide_false, beq_self_eq_true, g1, g3, g4]
      refine ⟨trivial, trivial, trivial, hd', by omega, get_app hb0, io, c, rfl, hio, get_app hbo, ?_⟩
      rw [htk, List.filter_append, List.filter_cons, hnt]
      simpa using hc
    case false =>
      have hit : isTear x = true := by unfold isTear; simpa [bne] using ht
      have hmem : x ∈ tearsL r := List.mem_filter.2 ⟨List.mem_of_getElem? hg, hit⟩
      obtain ⟨t1, t2, t3, t4, t5, t6, t7⟩ := h.tearN x hmem
      have hblen : io < blks.length := (List.getElem?_eq_some_iff.1 hbo).1
      obtain ⟨f, hf⟩ : ∃ f : Nat, x.fr = f := ⟨x.fr.toNat, by omega⟩
      obtain ⟨t, htt⟩ : ∃ t : Nat, x.to = t := ⟨x.to.toNat, by omega⟩
      obtain ⟨lo, hlo⟩ : ∃ lo : Nat, x.lo = lo := ⟨x.lo.toNat, by omega⟩
      obtain ⟨hi', hhi⟩ : ∃ hi : Nat, x.hi = hi := ⟨x.hi.toNat, by omega⟩
      have hft : f ≤ t := by rw [hf, htt] at t1; simpa using t1
      have htL : t < L := by rw [htt] at t2; simpa using t2
      have hB : ∀ b, isB x b ↔ isBlk f t lo hi' b := fun b => by unfold isB; rw [hf, htt, hlo, hhi]; rfl
      have hNe : ∀ j, j < 2 ^ L → c j ≤ 11 := hc.le
      obtain ⟨im, him⟩ : ∃ im, im = blks.length := ⟨_, rfl⟩
      obtain ⟨nx, hnx⟩ : ∃ nx, nx = (blks ++ [Blk.live [encM x] 5]).length := ⟨_, rfl⟩
      have hnx' : nx = blks.length + 1 := by rw [hnx]; simp
      have hl0 : 0 < blks.length := (List.getElem?_eq_some_iff.1 hb0).1
      have hMC0 : MC r x (2 ^ L) c (fun _ => 0) io im nx (blks ++ [Blk.live [encM x] 5] ++ [Blk.live (encC (2 ^ L) fun _ => 0) 1]) :=
        ⟨get_app (get_app hb0), get_app (get_app hbo), by rw [him]; exact get_app (get_last _ _), by rw [hnx]; exact get_last _ _, by omega, by omega, by omega⟩
      simp only [go_sem, Nat.reduceEqDiff, Nat.reduceAdd, Nat.reduceLT, Nat.reduceLeDiff, reduceIte, and_self, decide_true, decide_false, beq_self_eq_true, g3, eN]
      simp only [go_sem, Nat.reduceEqDiff, Nat.reduceAdd, Nat.reduceLT, Nat.reduceLeDiff, reduceIte, and_self, decide_true, decide_false, beq_self_eq_true, hmk, encC_zero, Int.toNat_natCast]
      -- what a set costs with one more mark
      refine WL_inv (α := Nat) (fun s e mm => e 1 = .ptr 0 0 0 ∧ e 3 = I64 (allN L : Nat) ∧ e 4 = .ref io 0 (2 ^ L) ∧ e 6 = I64 k ∧ e 7 = .ptr im 0 0 ∧ e 8 = .ref nx 0 (2 ^ L) ∧ e 9 = I64 s ∧ s ≤ 2 ^ L ∧
        MC r x (2 ^ L) c (fun j => if j < s then min 11 (c j + 1) else 0) io im nx mm.blks) (fun s => 2 ^ L - s) 0 ?_ ?_
      · simp only [go_sem, Nat.reduceEqDiff, Nat.reduceAdd, Nat.reduceLT, Nat.reduceLeDiff, reduceIte, and_self, decide_true, decide_false, beq_self_eq_true, g1, g3, g4, g6]
        exact ⟨trivial, trivial, trivial, trivial, by rw [him], by rw [hnx], rfl, by omega, hMC0.congr fun j _ => by simp⟩
      rintro s e ⟨blks, toks⟩ ⟨g1, g3, g4, g6, g7, g8, g9, hs, hM⟩
      dsimp only at hM
      by_cases hsl : s < 2 ^ L
      · have hws : IntKind.i64.wrap ((s : Int) + 1) = ((s + 1 : Nat) : Int) := by rw [wrap_i64 _ (by omega) (by omega)]; rfl
        have hx := idx_ref blks toks io (2 ^ L) s _ hM.bo hsl
        have hx2 := idx_ref blks toks nx (2 ^ L) s _ hM.bn hsl
        have hcs := hNe s hsl
        have hwc : IntKind.i64.wrap (((c s : Nat) : Int) + 1) = ((c s + 1 : Nat) : Int) := by rw [wrap_i64 _ (by omega) (by omega)]; rfl
        have hmn : min (11 : Int) ((c s + 1 : Nat) : Int) = ((min 11 (c s + 1) : Nat) : Int) := by omega
        simp only [go_sem, Nat.reduceEqDiff, Nat.reduceAdd, Nat.reduceLT, Nat.reduceLeDiff, reduceIte, and_self, decide_true, decide_false, beq_self_eq_true, g3, g4, g8, g9, decide_eq_true (show (s : Int) ≤ ((allN L : Nat) : Int) by omega), hx, hx2, hM.bo, hM.bn, encC_get _ _ _ hsl, hwc, hmn, encC_set, hws]
        refine Nx_of (s + 1) (by omega) ?_
        simp only [go_sem, Nat.reduceEqDiff, Nat.reduceAdd, Nat.reduceLT, Nat.reduceLeDiff, reduceIte, and_self, decide_true, decide_false, beq_self_eq_true, g1, g3, g4, g6, g7, g8]
        refine ⟨trivial, trivial, trivial, trivial, trivial, trivial, trivial, by omega, hM.set.congr fun j hj => ?_⟩
        unfold lowN
        by_cases h2 : j = s
        · subst h2; rw [if_pos rfl, if_pos (by omega)]
        · rw [if_neg h2]
          show (if j < s then min 11 (c j + 1) else 0) = _
          by_cases h3 : j < s
          · rw [if_pos h3, if_pos (by omega)]
          · rw [if_neg h3, if_neg (by omega)]
      obtain rfl : s = 2 ^ L := by omega
      simp only [go_sem, Nat.reduceEqDiff, Nat.reduceAdd, Nat.reduceLT, Nat.reduceLeDiff, reduceIte, and_self, decide_true, decide_false, beq_self_eq_true, g1, g3, g4, g6, g7, g8, g9, decide_eq_false (show ¬ ((2 ^ L : Nat) : Int) ≤ ((allN L : Nat) : Int) by omega)]
      -- every set, and every block
      refine WL_inv (α := Nat × (Nat → Nat)) (fun a e mm => e 1 = .ptr 0 0 0 ∧ e 3 = I64 (allN L : Nat) ∧ e 4 = .ref io 0 (2 ^ L) ∧ e 6 = I64 k ∧ e 7 = .ptr im 0 0 ∧ e 8 = .ref nx 0 (2 ^ L) ∧ e 10 = I64 a.1 ∧ a.1 ≤ 2 ^ L ∧
        MC r x (2 ^ L) c a.2 io im nx mm.blks ∧ NX c x (2 ^ L) a.2 fun s b => s < a.1 ∧ c s < 11 ∧ isB x b) (fun a => 2 ^ L - a.1) (0, fun j => min 11 (c j + 1)) ?_ ?_
      · simp only [go_sem, Nat.reduceEqDiff, Nat.reduceAdd, Nat.reduceLT, Nat.reduceLeDiff, reduceIte, and_self, decide_true, decide_false, beq_self_eq_true, g1, g3, g4, g6, g7, g8]
        exact ⟨trivial, trivial, trivial, trivial, trivial, trivial, rfl, by omega, hM.congr fun j hj => by rw [if_pos hj], (NX.init c x (2 ^ L)).mono fun s b hsb => by omega⟩
      rintro ⟨s, n⟩ e ⟨blks, toks⟩ ⟨g1, g3, g4, g6, g7, g8, g10, hs, hM, hX⟩
      dsimp only at g10 hs hM hX
      by_cases hsl : s < 2 ^ L
      case neg =>
        obtain rfl : s = 2 ^ L := by omega
        simp only [go_sem, Nat.reduceEqDiff, Nat.reduceAdd, Nat.reduceLT, Nat.reduceLeDiff, reduceIte, and_self, decide_true, decide_false, beq_self_eq_true, g1, g3, g4, g6, g7, g8, g10, decide_eq_false (show ¬ ((2 ^ L : Nat) : Int) ≤ ((allN L : Nat) : Int) by omega), hw]
        refine Nx_of (k + 1, ms) (by simp; omega) ?_
        simp only [go_sem, Nat.reduceEqDiff, Nat.reduceAdd, Nat.reduceLT, Nat.reduceLeDiff, reduceIte, and_self, decide_true, decide_false, beq_self_eq_true, g1, g3, g8]
        refine ⟨trivial, trivial, trivial, hd', by omega, hM.b0, nx, n, rfl, by omega, hM.bn, ?_⟩
        rw [htk, List.filter_append, List.filter_cons, hit]
        exact CostOK.step (by omega) (Nat.le_trans (List.length_filter_le _ _) (by rw [List.length_take]; omega)) hc hX
      have hws : IntKind.i64.wrap ((s : Int) + 1) = ((s + 1 : Nat) : Int) := by rw [wrap_i64 _ (by omega) (by omega)]; rfl
      have hx := idx_ref blks toks io (2 ^ L) s _ hM.bo hsl
      have hx2 := idx_ref blks toks nx (2 ^ L) s _ hM.bn hsl
      have hcs := hNe s hsl
      simp only [go_sem, Nat.reduceEqDiff, Nat.reduceAdd, Nat.reduceLT, Nat.reduceLeDiff, reduceIte, and_self, decide_true, decide_false, beq_self_eq_true, g3, g4, g7, g8, g10, decide_eq_true (show (s : Int) ≤ ((allN L : Nat) : Int) by omega), hx, hx2, hM.bo, hM.bn, hM.bm, encC_get _ _ _ hsl]
      cases h11 : (((c s : Nat) : Int) == 11)
      case true =>
        have h11' : c s = 11 := by have : ((c s : Nat) : Int) = 11 := by simpa using h11
                                   omega
        simp only [go_sem, Nat.reduceEqDiff, Nat.reduceAdd, Nat.reduceLT, Nat.reduceLeDiff, reduceIte, and_self, decide_true, decide_false, beq_self_eq_true, g10, hws]
        refine Nx_of (s + 1, n) (by simp; omega) ?_
        simp only [go_sem, Nat.reduceEqDiff, Nat.reduceAdd, Nat.reduceLT, Nat.reduceLeDiff, reduceIte, and_self, decide_true, decide_false, beq_self_eq_true, g1, g3, g4, g6, g7, g8]
        exact ⟨trivial, trivial, trivial, trivial, trivial, trivial, trivial, by omega, hM, hX.mono fun s' b ⟨q1, q2, q3⟩ => ⟨by
          by_cases hh : s' = s
          · subst hh; omega
          · omega, q2, q3⟩⟩
      case false =>
      have h11' : c s < 11 := by have : ¬ ((c s : Nat) : Int) = 11 := by simpa using h11
                                 omega
      have hwL := two_pow_le (a := L) (b := 16) (by omega)
      simp only [go_sem, Nat.reduceEqDiff, Nat.reduceAdd, Nat.reduceLT, Nat.reduceLeDiff, reduceIte, and_self, decide_true, decide_false, beq_self_eq_true, g7, hM.bm, hlo]
      cases hlo0 : (((lo : Nat) : Int) == 0)
      case' true =>
        have hlo0' : lo = 0 := by simpa using hlo0
        have hsz : andn s 0 = s := andn_zero s (by omega)
        have hb0' : isB x 0 := (hB 0).2 (Or.inl ⟨hlo0', rfl⟩)
        have hmn : min ((n s : Nat) : Int) ((c s : Nat) : Int) = ((min (n s) (c s) : Nat) : Int) := by omega
        have hX1 := hX.upd hsl hb0' hcs
        rw [hsz] at hX1
        obtain ⟨n1, hn1⟩ : ∃ n1, n1 = lowN n s (min (n s) (c s)) := ⟨_, rfl⟩
        rw [← hn1] at hX1
        have hM1 := hM.set (n' := n1)
        have hPX : NX c x (2 ^ L) n1 fun s' b => (s' < s ∧ c s' < 11 ∧ isB x b) ∨ (s' = s ∧ lo = 0 ∧ b = 0) := hX1.mono fun s' b hh => hh.imp id fun hh => ⟨hh.1, hh.2.2⟩
        simp only [go_sem, Nat.reduceEqDiff, Nat.reduceAdd, Nat.reduceLT, Nat.reduceLeDiff, reduceIte, and_self, decide_true, decide_false, beq_self_eq_true, g4, g7, g8, g10, hx, hx2, hM.bo, hM.bn, hM1.bm, encC_get _ _ _ hsl, hmn, encC_set, ← hn1, hf]
      case' false =>
        have hlo0' : lo ≠ 0 := by simpa using hlo0
        obtain ⟨n1, hn1⟩ : ∃ n1, n1 = n := ⟨_, rfl⟩
        have hX1 := hX
        rw [← hn1] at hX1
        have hM1 := hM
        rw [← hn1] at hM1
        have hPX : NX c x (2 ^ L) n1 fun s' b => (s' < s ∧ c s' < 11 ∧ isB x b) ∨ (s' = s ∧ lo = 0 ∧ b = 0) := hX1.mono fun s' b hh => hh.elim id fun hh => absurd hh.2.1 hlo0'
        simp only [go_sem, Nat.reduceEqDiff, Nat.reduceAdd, Nat.reduceLT, Nat.reduceLeDiff, reduceIte, and_self, decide_true, decide_false, beq_self_eq_true, g7, hM.bm, hf]
      all_goals
        refine WL_inv (α := Nat × (Nat → Nat)) (fun a e mm => e 1 = .ptr 0 0 0 ∧ e 3 = I64 (allN L : Nat) ∧ e 4 = .ref io 0 (2 ^ L) ∧ e 6 = I64 k ∧ e 7 = .ptr im 0 0 ∧ e 8 = .ref nx 0 (2 ^ L) ∧ e 10 = I64 s ∧ e 11 = I64 a.1 ∧ f ≤ a.1 ∧ a.1 ≤ t + 1 ∧
          MC r x (2 ^ L) c a.2 io im nx mm.blks ∧ NX c x (2 ^ L) a.2 fun s' b => (s' < s ∧ c s' < 11 ∧ isB x b) ∨ (s' = s ∧ ((lo = 0 ∧ b = 0) ∨ ∃ a' d, f ≤ a' ∧ a' < a.1 ∧ 1 ≤ d ∧ a' + d ≤ t + 1 ∧ lo ≤ d ∧ d ≤ hi' ∧ b = blkN a' d))) (fun a => t + 1 - a.1) (f, n1) ?_ ?_
        · simp only [go_sem, Nat.reduceEqDiff, Nat.reduceAdd, Nat.reduceLT, Nat.reduceLeDiff, reduceIte, and_self, decide_true, decide_false, beq_self_eq_true, g1, g3, g4, g6, g7, g8, g10]
          refine ⟨trivial, trivial, trivial, trivial, trivial, trivial, trivial, trivial, by omega, by omega, hM1, hPX.mono fun s' b hh => hh.imp id fun hh => ⟨hh.1, ?_⟩⟩
          rcases hh.2 with q | ⟨a', d, q1, q2, _⟩
          · exact q
          · omega
        rintro ⟨a, n2⟩ e ⟨blks, toks⟩ ⟨g1, g3, g4, g6, g7, g8, g10, g11, ha1, ha2, hM, hX⟩
        dsimp only at g11 ha1 ha2 hM hX
        by_cases hat : a ≤ t
        case neg =>
          obtain rfl : a = t + 1 := by omega
          simp only [go_sem, Nat.reduceEqDiff, Nat.reduceAdd, Nat.reduceLT, Nat.reduceLeDiff, reduceIte, and_self, decide_true, decide_false, beq_self_eq_true, g7, g10, g11, hM.bm, htt, decide_eq_false (show ¬ ((t + 1 : Nat) : Int) ≤ (t : Int) by omega), hws]
          refine Nx_of (s + 1, n2) (by simp; omega) ?_
          simp only [go_sem, Nat.reduceEqDiff, Nat.reduceAdd, Nat.reduceLT, Nat.reduceLeDiff, reduceIte, and_self, decide_true, decide_false, beq_self_eq_true, g1, g3, g4, g6, g7, g8]
          refine ⟨trivial, trivial, trivial, trivial, trivial, trivial, trivial, by omega, hM, hX.mono fun s' b ⟨q1, q2, q3⟩ => ?_⟩
          by_cases hh : s' = s
          · refine Or.inr ⟨hh, ?_⟩
            rcases (hB b).1 q3 with q | ⟨a', d, w1, w2, w3, w4, w5, w6⟩
            · exact Or.inl q
            · exact Or.inr ⟨a', d, w1, by omega, w2, w3, w4, w5, w6⟩
          · exact Or.inl ⟨by omega, q2, q3⟩
        have hwa : IntKind.i64.wrap ((a : Int) + 1) = ((a + 1 : Nat) : Int) := by rw [wrap_i64 _ (by omega) (by omega)]; rfl
        simp only [go_sem, Nat.reduceEqDiff, Nat.reduceAdd, Nat.reduceLT, Nat.reduceLeDiff, reduceIte, and_self, decide_true, decide_false, beq_self_eq_true, g7, g10, g11, hM.bm, htt, decide_eq_true (show (a : Int) ≤ (t : Int) by omega)]
        refine WL_inv (α := Nat × (Nat → Nat)) (fun q e mm => e 1 = .ptr 0 0 0 ∧ e 3 = I64 (allN L : Nat) ∧ e 4 = .ref io 0 (2 ^ L) ∧ e 6 = I64 k ∧ e 7 = .ptr im 0 0 ∧ e 8 = .ref nx 0 (2 ^ L) ∧ e 10 = I64 s ∧ e 11 = I64 a ∧ e 12 = I64 q.1 ∧ a ≤ q.1 ∧ q.1 ≤ t + 1 ∧
          MC r x (2 ^ L) c q.2 io im nx mm.blks ∧ NX c x (2 ^ L) q.2 fun s' b => (s' < s ∧ c s' < 11 ∧ isB x b) ∨ (s' = s ∧ (((lo = 0 ∧ b = 0) ∨ ∃ a' d, f ≤ a' ∧ a' < a ∧ 1 ≤ d ∧ a' + d ≤ t + 1 ∧ lo ≤ d ∧ d ≤ hi' ∧ b = blkN a' d) ∨
            ∃ d, 1 ≤ d ∧ a + d ≤ q.1 ∧ lo ≤ d ∧ d ≤ hi' ∧ b = blkN a d))) (fun q => t + 1 - q.1) (a, n2) ?_ ?_
        · simp only [go_sem, Nat.reduceEqDiff, Nat.reduceAdd, Nat.reduceLT, Nat.reduceLeDiff, reduceIte, and_self, decide_true, decide_false, beq_self_eq_true, g1, g3, g4, g6, g7, g8, g10, g11]
          refine ⟨trivial, trivial, trivial, trivial, trivial, trivial, trivial, trivial, trivial, by omega, by omega, hM, hX.mono fun s' b hh => hh.imp id fun hh => ⟨hh.1, ?_⟩⟩
          rcases hh.2 with q | ⟨d, q1, q2, _⟩
          · exact q
          · omega
        rintro ⟨b, n3⟩ e ⟨blks, toks⟩ ⟨g1, g3, g4, g6, g7, g8, g10, g11, g12, hb1, hb2, hM, hX⟩
        dsimp only at g12 hb1 hb2 hM hX
        by_cases hbt : b ≤ t
        case neg =>
          obtain rfl : b = t + 1 := by omega
          simp only [go_sem, Nat.reduceEqDiff, Nat.reduceAdd, Nat.reduceLT, Nat.reduceLeDiff, reduceIte, and_self, decide_true, decide_false, beq_self_eq_true, g7, g10, g11, g12, hM.bm, htt, decide_eq_false (show ¬ ((t + 1 : Nat) : Int) ≤ (t : Int) by omega), hwa]
          refine Nx_of (a + 1, n3) (by simp; omega) ?_
          simp only [go_sem, Nat.reduceEqDiff, Nat.reduceAdd, Nat.reduceLT, Nat.reduceLeDiff, reduceIte, and_self, decide_true, decide_false, beq_self_eq_true, g1, g3, g4, g6, g7, g8, g10]
          refine ⟨trivial, trivial, trivial, trivial, trivial, trivial, trivial, trivial, by omega, by omega, hM, hX.mono fun s' b hh => hh.imp id fun hh => ⟨hh.1, ?_⟩⟩
          rcases hh.2 with q | ⟨a', d, q1, q2, q3, q4, q5, q6, q7⟩
          · exact Or.inl (Or.inl q)
          · by_cases haa : a' = a
            · subst haa; exact Or.inr ⟨d, q3, q4, q5, q6, q7⟩
            · exact Or.inl (Or.inr ⟨a', d, q1, by omega, q3, q4, q5, q6, q7⟩)
        have hwb : IntKind.i64.wrap ((b : Int) + 1) = ((b + 1 : Nat) : Int) := by rw [wrap_i64 _ (by omega) (by omega)]; rfl
        have hwd : IntKind.i64.wrap (IntKind.i64.wrap ((b : Int) - (a : Int)) + 1) = ((b + 1 - a : Nat) : Int) := by
          rw [wrap_i64 ((b : Int) - (a : Int)) (by omega) (by omega), wrap_i64 _ (by omega) (by omega)]; omega
        simp only [go_sem, Nat.reduceEqDiff, Nat.reduceAdd, Nat.reduceLT, Nat.reduceLeDiff, reduceIte, and_self, decide_true, decide_false, beq_self_eq_true, g7, g10, g11, g12, hM.bm, htt, hlo, hhi, decide_eq_true (show (b : Int) ≤ (t : Int) by omega), hwd, WB59, WVH_eq (within_ok _ _ _), true_and]
        cases hwi : (decide (((lo : Nat) : Int) ≤ ((b + 1 - a : Nat) : Int)) && decide (((b + 1 - a : Nat) : Int) ≤ ((hi' : Nat) : Int)))
        case false =>
          simp only [go_sem, Nat.reduceEqDiff, Nat.reduceAdd, Nat.reduceLT, Nat.reduceLeDiff, reduceIte, and_self, decide_true, decide_false, beq_self_eq_true, g12, hwb]
          refine Nx_of (b + 1, n3) (by simp; omega) ?_
          simp only [go_sem, Nat.reduceEqDiff, Nat.reduceAdd, Nat.reduceLT, Nat.reduceLeDiff, reduceIte, and_self, decide_true, decide_false, beq_self_eq_true, g1, g3, g4, g6, g7, g8, g10, g11]
          refine ⟨trivial, trivial, trivial, trivial, trivial, trivial, trivial, trivial, trivial, by omega, by omega, hM, hX.mono fun s' b' hh => hh.imp id fun hh => ⟨hh.1, hh.2.imp id ?_⟩⟩
          rintro ⟨d, q1, q2, q3, q4, q5⟩
          refine ⟨d, q1, ?_, q3, q4, q5⟩
          by_cases hd2 : a + d ≤ b
          · exact hd2
          · exfalso
            have hdd := nat_last q2 hd2
            rw [hdd] at q3 q4
            rw [dec_le' q3, dec_le' q4] at hwi
            cases hwi
        case true =>
          have hwi' : lo ≤ b + 1 - a ∧ b + 1 - a ≤ hi' := by
            simp only [Bool.and_eq_true, decide_eq_true_eq] at hwi; omega
          have hblk := block_ok a b (by omega) (by omega)
          have hbl16 : blkN a (b + 1 - a) < 2 ^ 16 := blk_lt (by omega)
          have hor : andNotI .i64 ((s : Nat) : Int) ((blkN a (b + 1 - a) : Nat) : Int) = ((andn s (blkN a (b + 1 - a)) : Nat) : Int) := andNotN _ _ (by omega) (by omega)
          have hol : andn s (blkN a (b + 1 - a)) < 2 ^ L := andn_lt' hsl
          have hx := idx_ref blks toks io (2 ^ L) s _ hM.bo hsl
          have hx2 := idx_ref blks toks nx (2 ^ L) _ _ hM.bn hol
          have hmn : min ((n3 (andn s (blkN a (b + 1 - a))) : Nat) : Int) ((c s : Nat) : Int) = ((min (n3 (andn s (blkN a (b + 1 - a)))) (c s) : Nat) : Int) := by omega
          have hXu := hX.upd hsl ((hB _).2 (Or.inr ⟨a, b + 1 - a, ha1, by omega, by omega, hwi'.1, hwi'.2, rfl⟩)) hcs
          have hMu := hM.set (n' := lowN n3 (andn s (blkN a (b + 1 - a))) (min (n3 (andn s (blkN a (b + 1 - a)))) (c s)))
          simp only [go_sem, Nat.reduceEqDiff, Nat.reduceAdd, Nat.reduceLT, Nat.reduceLeDiff, reduceIte, and_self, decide_true, decide_false, beq_self_eq_true, g4, g7, g8, g10, g11, g12, WB83, WVH_eq hblk, true_and, hor, hx, hx2, hM.bo, hM.bn, encC_get _ _ _ hsl, encC_get _ _ _ hol, hmn, encC_set, hwb]
          refine Nx_of (b + 1, lowN n3 (andn s (blkN a (b + 1 - a))) (min (n3 (andn s (blkN a (b + 1 - a)))) (c s))) (by simp; omega) ?_
          simp only [go_sem, Nat.reduceEqDiff, Nat.reduceAdd, Nat.reduceLT, Nat.reduceLeDiff, reduceIte, and_self, decide_true, decide_false, beq_self_eq_true, g1, g3, g4, g6, g7, g8, g10, g11]
          refine ⟨trivial, trivial, trivial, trivial, trivial, trivial, trivial, trivial, trivial, by omega, by omega, hMu, hXu.mono fun s' b' hh => ?_⟩
          rcases hh with hh | ⟨rfl, hh⟩
          · exact Or.inl (Or.inl hh)
          · rcases hh with hh | ⟨d, q1, q2, q3, q4, q5⟩
            · exact Or.inl (Or.inr ⟨rfl, Or.inl hh⟩)
            · by_cases hd2 : a + d ≤ b
              · exact Or.inl (Or.inr ⟨rfl, Or.inr ⟨d, q1, hd2, q3, q4, q5⟩⟩)
              · refine Or.inr ⟨rfl, ?_⟩
                have hdd := nat_last q2 hd2
                rw [q5, hdd]
theorem costs_ok (r : Rl) (L : Nat) (h : Ok r L) : ∃ c, CostOK L (tearsL r) c ∧ RV ft 55 [encR r] (.sl (encC (2 ^ L) (costF c (claimsL r))) .unk) := by
  obtain ⟨v, h1, c, h2, rfl⟩ := costs_ex r L h
  exact ⟨c, h2, h1⟩
end Go.Ab.T
end

section
namespace Go.Ab.T
set_option maxRecDepth 8000
set_option linter.unusedSimpArgs false
set_option linter.unusedVariables false
set_option maxHeartbeats 2000000
/-! ### The truths, and the fewest, as the law's file finds them -/
theorem fewest_le {r : Rl} {L : Nat} (h : Ok r L) : fewestL r L ≤ r.marks.length := by
  have h2 := (fewest_spec h).2 _ ⟨_, _, choice_all (tearsL r), rfl⟩
  have h3 := untrueN_le (claimsL r) (andn (allN L) 0)
  have h4 := marks_len r
  omega
theorem tears_le {r : Rl} {L : Nat} (h : Ok r L) : (tearsL r).length ≤ 10 := by
  have := tears_len r
  have := h.ten
  omega
theorem cost_zero {r : Rl} {L : Nat} (h : Ok r L) {c : Nat → Nat} (hc : CostOK L (tearsL r) c) {s : Nat} (hs : s < 2 ^ L) : costF c (claimsL r) s = 0 ↔ s ∈ truthsL r L := by
  rw [truths_mem h]
  unfold costF
  constructor
  · intro h0
    have hc0 : c s = 0 := by omega
    have hu : untrueN (claimsL r) s = 0 := by omega
    obtain ⟨g, h1, h2⟩ := hc.att s hs (by omega)
    rw [hc0] at h1
    refine ⟨⟨g, h1, h2⟩, fun m hm => ?_⟩
    unfold untrueN at hu
    rw [List.length_eq_zero_iff, List.filter_eq_nil_iff] at hu
    simpa using hu m hm
  · rintro ⟨⟨g, h1, rfl⟩, h2⟩
    have := hc.low 0 g h1 (by omega)
    have hu : untrueN (claimsL r) (andn (allN L) g) = 0 := by
      unfold untrueN
      rw [List.length_eq_zero_iff, List.filter_eq_nil_iff]
      intro m hm; simp [h2 m hm]
    omega
theorem cost_ge {r : Rl} {L : Nat} (h : Ok r L) {c : Nat → Nat} (hc : CostOK L (tearsL r) c) {s : Nat} (hs : s < 2 ^ L) : fewestL r L ≤ costF c (claimsL r) s := by
  have h1 := fewest_le h
  have h2 := h.ten
  unfold costF
  by_cases hlt : c s + untrueN (claimsL r) s < 11
  · obtain ⟨g, h3, h4⟩ := hc.att s hs (by omega)
    have := (fewest_spec h).2 _ ⟨_, g, h3, rfl⟩
    rw [← h4] at this
    omega
  · omega
theorem cost_att {r : Rl} {L : Nat} (h : Ok r L) {c : Nat → Nat} (hc : CostOK L (tearsL r) c) : ∃ s, s < 2 ^ L ∧ costF c (claimsL r) s ≤ fewestL r L := by
  obtain ⟨k, g, h1, h2⟩ := (fewest_spec h).1
  have hk := choice_le h1
  have ht := tears_le h
  have h3 := hc.low k g h1 (by omega)
  refine ⟨andn (allN L) g, andn_lt' (by unfold allN; have := Nat.two_pow_pos L; omega), ?_⟩
  unfold costF
  omega
/-- The truths, ascending. -/
def RT (r : Rl) (L : Nat) : List Nat := (List.range (2 ^ L)).filter fun s => decide (s ∈ truthsL r L)
theorem RT_mem {r : Rl} {L : Nat} (h : Ok r L) (s : Nat) : s ∈ RT r L ↔ s ∈ truthsL r L := by
  unfold RT
  rw [List.mem_filter, List.mem_range, decide_eq_true_eq]
  exact ⟨fun h => h.2, fun h2 => ⟨truths_lt h h2, h2⟩⟩
theorem RT_len {r : Rl} {L : Nat} (h : Ok r L) : (RT r L).length = (truthsL r L).length :=
  len_of_mem (nodup_filter _ List.nodup_range) (truths_nodup h) (RT_mem h)
theorem RT_nil {r : Rl} {L : Nat} (h : Ok r L) : RT r L = [] ↔ truthsL r L = [] := by
  have := RT_len h
  rw [← List.length_eq_zero_iff, ← List.length_eq_zero_iff, this]
theorem RT_lt {r : Rl} {L : Nat} : ∀ s ∈ RT r L, s < 2 ^ L := fun s hs => List.mem_range.1 (List.mem_filter.1 hs).1
theorem RT_len_le {r : Rl} {L : Nat} (hL : L ≤ 9) : (RT r L).length ≤ 512 := by
  have := two_pow_le (a := L) (b := 9) hL
  exact Nat.le_trans (List.length_filter_le _ _) (by rw [List.length_range]; omega)
theorem Truths_ok (r : Rl) (L : Nat) (h : Ok r L) : RV ft 53 [encR r] (.sl ((RT r L).map fun (i : Nat) => I64 i) .unk) := by
  have h9 := h.nine
  have hP9 := two_pow_le (a := L) (b := 9) (by omega)
  obtain ⟨c, hc, hV⟩ := costs_ok r L h
  refine RV_of ft53 rfl ?_
  simp only [c53, r53]
  simp only [go_sem, Nat.reduceEqDiff, Nat.reduceAdd, Nat.reduceLT, Nat.reduceLeDiff, reduceIte, and_self, decide_true, decide_false, beq_self_eq_true, sn_ms, hot_ms, WB55, WVH_eq hV, true_and]
  refine WL_inv (α := Nat) (fun k e m => e 4 = .sl (encC (2 ^ L) (costF c (claimsL r))) .unk ∧ e 5 = I64 k ∧ k ≤ 2 ^ L ∧
    ∃ es : List Nat, Acc 3 (es.map fun (i : Nat) => I64 i) (e 3) m.toks ∧ es = (List.range k).filter fun s => decide (s ∈ truthsL r L)) (fun k => 2 ^ L - k) 0 ?_ ?_
  · simp only [go_sem, Nat.reduceEqDiff, Nat.reduceAdd, Nat.reduceLT, Nat.reduceLeDiff, reduceIte, and_self, decide_true, decide_false, beq_self_eq_true]
    exact ⟨trivial, rfl, Nat.zero_le _, [], Acc_nil _, rfl⟩
  rintro k e ⟨blks, toks⟩ ⟨g4, g5, hk, es, ha, rfl⟩
  dsimp only at ha
  by_cases hlt : k < 2 ^ L
  · have hw : IntKind.i64.wrap ((k : Int) + 1) = ((k + 1 : Nat) : Int) := by rw [wrap_i64 _ (by omega) (by omega)]; rfl
    have hx : ((List.range k ++ [k]).filter fun s => decide (s ∈ truthsL r L)) = ((List.range k).filter fun s => decide (s ∈ truthsL r L)) ++ if k ∈ truthsL r L then [k] else [] := by
      rw [List.filter_append, List.filter_cons, List.filter_nil]
      by_cases h : k ∈ truthsL r L <;> simp [h]
    have hlen : ((List.range k).filter fun s => decide (s ∈ truthsL r L)).length ≤ k := Nat.le_trans (List.length_filter_le _ _) (by simp)
    simp only [go_sem, Nat.reduceEqDiff, Nat.reduceAdd, Nat.reduceLT, Nat.reduceLeDiff, reduceIte, and_self, decide_true, decide_false, beq_self_eq_true, g4, g5, encC_len, dec_lt hlt, dec_nn, Int.toNat_natCast, encC_get _ _ _ hlt]
    cases hz : (((costF c (claimsL r) k : Nat) : Int) == 0)
    case true =>
      have hmem : k ∈ truthsL r L := (cost_zero h hc hlt).1 (by simpa using hz)
      simp only [go_sem, Nat.reduceEqDiff, Nat.reduceAdd, Nat.reduceLT, Nat.reduceLeDiff, reduceIte, and_self, decide_true, decide_false, beq_self_eq_true, g5]
      refine ha.app (y := I64 k) (sz := 1) (bytes := 8) (fun e he => by obtain ⟨a, _, rfl⟩ := List.mem_map.1 he; rfl) rfl (by simp only [List.length_map, limit]; omega) fun v' toks' ha' => ?_
      simp only [go_sem, Nat.reduceEqDiff, Nat.reduceAdd, Nat.reduceLT, Nat.reduceLeDiff, reduceIte, and_self, decide_true, decide_false, beq_self_eq_true, g5, hw]
      refine Nx_of (k + 1) (by omega) ?_
      simp only [go_sem, Nat.reduceEqDiff, Nat.reduceAdd, Nat.reduceLT, Nat.reduceLeDiff, reduceIte, and_self, decide_true, decide_false, beq_self_eq_true, g4]
      refine ⟨trivial, trivial, by omega, _, ?_, rfl⟩
      first | (rw [hx, if_pos hmem]; simpa using ha') | (rw [List.range_succ, hx, if_pos hmem]; simpa using ha')
    case false =>
      have hmem : k ∉ truthsL r L := fun hm => by
        have := (cost_zero h hc hlt).2 hm
        rw [this] at hz; cases hz
      simp only [go_sem, Nat.reduceEqDiff, Nat.reduceAdd, Nat.reduceLT, Nat.reduceLeDiff, reduceIte, and_self, decide_true, decide_false, beq_self_eq_true, g5, hw]
      refine Nx_of (k + 1) (by omega) ?_
      simp only [go_sem, Nat.reduceEqDiff, Nat.reduceAdd, Nat.reduceLT, Nat.reduceLeDiff, reduceIte, and_self, decide_true, decide_false, beq_self_eq_true, g4]
      refine ⟨trivial, trivial, by omega, _, ?_, rfl⟩
      rw [hx, if_neg hmem]; simpa using ha
  · obtain rfl : k = 2 ^ L := by omega
    simp only [go_sem, Nat.reduceEqDiff, Nat.reduceAdd, Nat.reduceLT, Nat.reduceLeDiff, reduceIte, and_self, decide_true, decide_false, beq_self_eq_true, g4, g5, encC_len, dec_ge (Nat.le_refl _), ha.snap, List.map_map]
    rfl
theorem refMany_ok (r : Rl) (h : Near r) : RV ft 18 [encR r] (.tup [I64 (manyL r), I64 (checkR r)]) := by
  refine RV_of ft18 rfl ?_
  simp only [c18, r18]
  by_cases h0 : checkR r = 0
  · have hok := h.ok h0
    have hc := refCheck_ok r h.few
    rw [h0] at hc
    have hm : manyL r = ((RT r r.feet.toNat).length : Nat) := by
      unfold manyL; rw [if_pos h0, RT_len hok]
    simp only [go_sem, Nat.reduceEqDiff, Nat.reduceAdd, Nat.reduceLT, Nat.reduceLeDiff, reduceIte, and_self, decide_true, decide_false, beq_self_eq_true, sn_ms, hot_ms, WB22, WVH_eq hc, true_and, show ((0 : Int) != 0) = false from rfl, WB53, WVH_eq (Truths_ok r _ hok), List.length_map]
    rw [hm, h0]
  · have h1 : (checkR r != 0) = true := by simpa using h0
    have hm : manyL r = 0 := by unfold manyL; rw [if_neg h0]
    simp only [go_sem, Nat.reduceEqDiff, Nat.reduceAdd, Nat.reduceLT, Nat.reduceLeDiff, reduceIte, and_self, decide_true, decide_false, beq_self_eq_true, sn_ms, hot_ms, WB22, WVH_eq (refCheck_ok r h.few), true_and, h1, hm]
theorem refFewest_ok (r : Rl) (h : Near r) : RV ft 20 [encR r] (.tup [I64 (fewL r), I64 (checkR r)]) := by
  refine RV_of ft20 rfl ?_
  simp only [c20, r20]
  by_cases h0 : checkR r = 0
  · have hok := h.ok h0
    have hc0 := refCheck_ok r h.few
    rw [h0] at hc0
    have h9 := hok.nine
    have h10 := hok.ten
    obtain ⟨L, hL⟩ : ∃ L, L = r.feet.toNat := ⟨_, rfl⟩
    rw [← hL] at hok h9
    have hP9 := two_pow_le (a := L) (b := 9) (by omega)
    obtain ⟨c, hc, hV⟩ := costs_ok r L hok
    have hm : fewL r = (fewestL r L : Nat) := by unfold fewL; rw [if_pos h0, hL]
    simp only [go_sem, Nat.reduceEqDiff, Nat.reduceAdd, Nat.reduceLT, Nat.reduceLeDiff, reduceIte, and_self, decide_true, decide_false, beq_self_eq_true, sn_ms, hot_ms, WB22, WVH_eq hc0, true_and, show ((0 : Int) != 0) = false from rfl, WB55, WVH_eq hV]
    refine WL_inv (α := Nat × Nat) (fun a e m => e 6 = .sl (encC (2 ^ L) (costF c (claimsL r))) .unk ∧ e 7 = I64 a.1 ∧ e 5 = I64 a.2 ∧ a.1 ≤ 2 ^ L ∧ (∀ s, s < a.1 → a.2 ≤ costF c (claimsL r) s) ∧ (a.2 = 11 ∨ ∃ s, s < 2 ^ L ∧ a.2 = costF c (claimsL r) s)) (fun a => 2 ^ L - a.1) (0, 11) ?_ ?_
    · simp only [go_sem, Nat.reduceEqDiff, Nat.reduceAdd, Nat.reduceLT, Nat.reduceLeDiff, reduceIte, and_self, decide_true, decide_false, beq_self_eq_true]
      exact ⟨trivial, rfl, rfl, Nat.zero_le _, fun s hs => by omega, Or.inl trivial⟩
    rintro ⟨k, n⟩ e ⟨blks, toks⟩ ⟨g6, g7, g5, hk, hlo, hat⟩
    dsimp only at g7 g5 hk hlo hat
    by_cases hlt : k < 2 ^ L
    · have hw : IntKind.i64.wrap ((k : Int) + 1) = ((k + 1 : Nat) : Int) := by rw [wrap_i64 _ (by omega) (by omega)]; rfl
      have hmn : min ((n : Nat) : Int) ((costF c (claimsL r) k : Nat) : Int) = ((min n (costF c (claimsL r) k) : Nat) : Int) := by omega
      simp only [go_sem, Nat.reduceEqDiff, Nat.reduceAdd, Nat.reduceLT, Nat.reduceLeDiff, reduceIte, and_self, decide_true, decide_false, beq_self_eq_true, g5, g6, g7, encC_len, dec_lt hlt, dec_nn, Int.toNat_natCast, encC_get _ _ _ hlt, hmn, hw]
      refine Nx_of (k + 1, min n (costF c (claimsL r) k)) (by simp; omega) ?_
      simp only [go_sem, Nat.reduceEqDiff, Nat.reduceAdd, Nat.reduceLT, Nat.reduceLeDiff, reduceIte, and_self, decide_true, decide_false, beq_self_eq_true, g6]
      refine ⟨trivial, trivial, trivial, by omega, fun s hs => ?_, ?_⟩
      · by_cases hsk : s = k
        · subst hsk; exact Nat.min_le_right _ _
        · exact Nat.le_trans (Nat.min_le_left _ _) (hlo s (by omega))
      · by_cases hle : n ≤ costF c (claimsL r) k
        · rw [Nat.min_eq_left hle]; exact hat
        · rw [Nat.min_eq_right (by omega)]; exact Or.inr ⟨k, hlt, rfl⟩
    · obtain rfl : k = 2 ^ L := by omega
      obtain ⟨s, hs1, hs2⟩ := cost_att hok hc
      have h3 := hlo s hs1
      have h4 := fewest_le hok
      have hn : n = fewestL r L := by
        rcases hat with rfl | ⟨s', hs', rfl⟩
        · omega
        · have := cost_ge hok hc hs'
          omega
      simp only [go_sem, Nat.reduceEqDiff, Nat.reduceAdd, Nat.reduceLT, Nat.reduceLeDiff, reduceIte, and_self, decide_true, decide_false, beq_self_eq_true, g5, g6, g7, encC_len, dec_ge (Nat.le_refl _)]
      rw [hm, h0, hn]
  · have h1 : (checkR r != 0) = true := by simpa using h0
    have hm : fewL r = 0 := by unfold fewL; rw [if_neg h0]
    simp only [go_sem, Nat.reduceEqDiff, Nat.reduceAdd, Nat.reduceLT, Nat.reduceLeDiff, reduceIte, and_self, decide_true, decide_false, beq_self_eq_true, sn_ms, hot_ms, WB22, WVH_eq (refCheck_ok r h.few), true_and, h1, hm]
def knownL (r : Rl) : List Nat := if checkR r = 0 then RT r r.feet.toNat else []
theorem known_ok (r : Rl) (h : Near r) : RV ft 65 [encR r] (.tup [.sl ((knownL r).map fun (i : Nat) => I64 i) .unk, I64 (errT r)]) := by
  refine RV_of ft65 rfl ?_
  simp only [c65, r65]
  by_cases h0 : checkR r = 0
  · have hok := h.ok h0
    have hc := refCheck_ok r h.few
    rw [h0] at hc
    have hk : knownL r = RT r r.feet.toNat := by unfold knownL; rw [if_pos h0]
    by_cases hn : RT r r.feet.toNat = []
    · have he : errT r = 3 := by rw [err_cases h0, if_pos ((RT_nil hok).1 hn)]
      have ht := Truths_ok r _ hok
      rw [hn] at ht
      simp only [go_sem, Nat.reduceEqDiff, Nat.reduceAdd, Nat.reduceLT, Nat.reduceLeDiff, reduceIte, and_self, decide_true, decide_false, beq_self_eq_true, sn_ms, hot_ms, WB22, WVH_eq hc, true_and, show ((0 : Int) != 0) = false from rfl, WB53, WVH_eq ht, List.map_nil, List.length_nil, hk, hn, he, show (((0 : Nat) : Int) == 0) = true from rfl]
    · have he : errT r = 0 := by rw [err_cases h0, if_neg fun h => hn ((RT_nil hok).2 h)]
      have hl : (((RT r r.feet.toNat).length : Int) == 0) = false := by
        have : (RT r r.feet.toNat).length ≠ 0 := fun h => hn (List.length_eq_zero_iff.1 h)
        simpa using this
      simp only [go_sem, Nat.reduceEqDiff, Nat.reduceAdd, Nat.reduceLT, Nat.reduceLeDiff, reduceIte, and_self, decide_true, decide_false, beq_self_eq_true, sn_ms, hot_ms, WB22, WVH_eq hc, true_and, show ((0 : Int) != 0) = false from rfl, WB53, WVH_eq (Truths_ok r _ hok), List.length_map, hl, hk, he, sn_nats]
  · have h1 : (checkR r != 0) = true := by simpa using h0
    have hk : knownL r = [] := by unfold knownL; rw [if_neg h0]
    have he : errT r = checkR r := by unfold errT; rw [if_neg h0]
    simp only [go_sem, Nat.reduceEqDiff, Nat.reduceAdd, Nat.reduceLT, Nat.reduceLeDiff, reduceIte, and_self, decide_true, decide_false, beq_self_eq_true, sn_ms, hot_ms, WB22, WVH_eq (refCheck_ok r h.few), true_and, h1, hk, he, List.map_nil]
theorem wider_ok (lo hi n : Int) (b : Bool) : RV ft 66 [.agg [I64 lo, I64 hi], I64 n, .bool b] (.agg [I64 (if b then n else min lo n), I64 (if b then n else max hi n)]) := by
  refine RV_of ft66 rfl ?_
  simp only [c66, r66]
  cases b
  · simp only [go_sem, Nat.reduceEqDiff, Nat.reduceAdd, Nat.reduceLT, Nat.reduceLeDiff, reduceIte, and_self, decide_true, decide_false, beq_self_eq_true, Bool.false_eq_true, if_false]
  · simp only [go_sem, Nat.reduceEqDiff, Nat.reduceAdd, Nat.reduceLT, Nat.reduceLeDiff, reduceIte, and_self, decide_true, decide_false, beq_self_eq_true, if_true]
end Go.Ab.T
end
