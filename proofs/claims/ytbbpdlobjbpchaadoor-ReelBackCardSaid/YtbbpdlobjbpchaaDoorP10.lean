/-
  A part of the proofs over this seat.
  (The texts AxM8 AxR35, one behind the other.)
-/
import Derived.Test.YtbbpdlobjbpchaaDoorP8
import Derived.Test.YtbbpdlobjbpchaaDoorP9
set_option linter.unusedSimpArgs false
set_option linter.unusedVariables false
set_option linter.unusedSectionVars false
section
namespace Go.Ab.T
set_option maxRecDepth 8000
set_option linter.unusedSimpArgs false
set_option linter.unusedVariables false
/-! ### A reel that is wound backwards -/
def revN : Nat → Nat → Nat
  | 0, _ => 0
  | k + 1, t => 2 ^ k * (t % 2) + revN k (t / 2)
theorem revN_lt : ∀ k t, revN k t < 2 ^ k
  | 0, _ => by simp [revN]
  | k + 1, t => by
    have := revN_lt k (t / 2)
    have h2 : t % 2 ≤ 1 := by omega
    unfold revN
    rw [Nat.pow_succ]
    have : 2 ^ k * (t % 2) ≤ 2 ^ k * 1 := Nat.mul_le_mul_left _ h2
    omega
theorem revN_bit : ∀ k t i, (revN k t).testBit i = (decide (i < k) && t.testBit (k - 1 - i))
  | 0, t, i => by simp [revN]
  | k + 1, t, i => by
    show (2 ^ k * (t % 2) + revN k (t / 2)).testBit i = _
    rw [Nat.testBit_two_pow_mul_add _ (revN_lt k _)]
    split
    · rename_i h
      rw [revN_bit k, decide_eq_true h, decide_eq_true (show i < k + 1 by omega), ← Nat.testBit_succ]
      congr 2; omega
    · rename_i h
      by_cases hi : i = k
      · subst hi
        rw [Nat.sub_self, decide_eq_true (show i < i + 1 by omega), show i + 1 - 1 - i = 0 by omega, Nat.testBit_zero, Nat.testBit_zero]
        simp
      · rw [decide_eq_false (show ¬ i < k + 1 by omega), Bool.false_and]
        exact Nat.testBit_lt_two_pow (Nat.lt_of_lt_of_le (Nat.mod_lt _ (by decide)) (two_pow_le (a := 1) (by omega)))
theorem lt_bit {t L i : Nat} (h : t < 2 ^ L) (hi : ¬ i < L) : t.testBit i = false := Nat.testBit_lt_two_pow (Nat.lt_of_lt_of_le h (two_pow_le (by omega)))
theorem rev_rev {L t : Nat} (h : t < 2 ^ L) : revN L (revN L t) = t := by
  apply Nat.eq_of_testBit_eq
  intro i
  rw [revN_bit, revN_bit]
  by_cases hi : i < L
  · rw [decide_eq_true hi, decide_eq_true (show L - 1 - i < L by omega), show L - 1 - (L - 1 - i) = i by omega]; simp
  · rw [decide_eq_false hi, lt_bit h hi]; rfl
theorem rev_or (L a b : Nat) : revN L (a ||| b) = revN L a ||| revN L b := by
  apply Nat.eq_of_testBit_eq; intro i
  rw [Nat.testBit_or, revN_bit, revN_bit, revN_bit, Nat.testBit_or]
  cases decide (i < L) <;> simp
theorem rev_and (L a b : Nat) : revN L (a &&& b) = revN L a &&& revN L b := by
  apply Nat.eq_of_testBit_eq; intro i
  rw [Nat.testBit_and, revN_bit, revN_bit, revN_bit, Nat.testBit_and]
  cases decide (i < L) <;> simp
theorem rev_zero : ∀ L, revN L 0 = 0
  | 0 => rfl
  | k + 1 => by unfold revN; rw [Nat.zero_mod, Nat.zero_div, rev_zero k]; rfl
theorem rev_andn (L g : Nat) (hL : L ≤ 16) : revN L (andn (allN L) g) = andn (allN L) (revN L g) := by
  apply Nat.eq_of_testBit_eq; intro i
  have hall : ∀ j, (allN L).testBit j = decide (j < L) := fun j => by unfold allN; rw [Nat.testBit_two_pow_sub_one]
  by_cases hi : i < 16
  · rw [revN_bit, andn_bit _ _ _ hi, andn_bit _ _ _ (by omega), hall, hall, revN_bit]
    by_cases h : i < L
    · rw [decide_eq_true h, decide_eq_true (show L - 1 - i < L by omega)]; simp
    · rw [decide_eq_false h]; rfl
  · rw [revN_bit, decide_eq_false (show ¬ i < L by omega), Bool.false_and]
    unfold andn
    rw [Nat.testBit_and, hall, decide_eq_false (show ¬ i < L by omega)]; rfl
theorem rev_blk {L a d : Nat} (h : a + d ≤ L) : revN L (blkN a d) = blkN (L - a - d) d := by
  apply Nat.eq_of_testBit_eq; intro i
  rw [revN_bit, blkN_bit, blkN_bit]
  by_cases hi : i < L
  · rw [decide_eq_true hi, Bool.true_and, Bool.eq_iff_iff]
    simp only [Bool.and_eq_true, decide_eq_true_eq]
    omega
  · rw [decide_eq_false hi, decide_eq_false (show ¬ i < L - a - d + d by omega)]; simp
/-- A mark of the reel that is wound backwards. -/
def revM (L : Nat) (m : Mk) : Mk := if m.kind == 1 || m.kind == 2 || m.kind == 3 then ⟨m.kind, (L : Int) - 1 - m.to, (L : Int) - 1 - m.fr, m.lo, m.hi⟩ else m
def revR (L : Nat) (r : Rl) : Rl := ⟨r.feet, r.marks.map (revM L)⟩
theorem revM_kind (L : Nat) (m : Mk) : (revM L m).kind = m.kind := by unfold revM; split <;> rfl
theorem revM_tear (L : Nat) (m : Mk) : isTear (revM L m) = isTear m := by unfold isTear; rw [revM_kind]
theorem revM_revM (L : Nat) (m : Mk) : revM L (revM L m) = m := by
  cases hk : (m.kind == 1 || m.kind == 2 || m.kind == 3)
  · have h1 : revM L m = m := by unfold revM; rw [hk]; rfl
    rw [h1, h1]
  · have h1 : revM L m = ⟨m.kind, (L : Int) - 1 - m.to, (L : Int) - 1 - m.fr, m.lo, m.hi⟩ := by unfold revM; rw [hk]; rfl
    rw [h1]
    unfold revM
    dsimp only
    rw [hk, if_pos rfl]
    cases m
    simp only [Mk.mk.injEq]
    exact ⟨trivial, by omega, by omega, trivial, trivial⟩
theorem revR_revR (L : Nat) (r : Rl) : revR L (revR L r) = r := by
  unfold revR
  dsimp only
  rw [List.map_map]
  have : r.marks.map (revM L ∘ revM L) = r.marks := by
    conv => rhs; rw [← List.map_id r.marks]
    exact List.map_congr_left fun m _ => revM_revM L m
  rw [this]
theorem revM_described {L : Nat} {m : Mk} {f : Int} (hf : f = L) (h : described m f = true) : described (revM L m) f = true := by
  unfold described at h ⊢
  rw [revM_kind]
  by_cases k1 : (m.kind == 1) = true
  · have e : revM L m = ⟨m.kind, (L : Int) - 1 - m.to, (L : Int) - 1 - m.fr, m.lo, m.hi⟩ := by unfold revM; rw [k1]; rfl
    rw [if_pos k1] at h ⊢
    rw [e]
    simp only [Bool.and_eq_true, decide_eq_true_eq] at h ⊢
    omega
  · rw [if_neg k1] at h ⊢
    by_cases k2 : (m.kind == 2 || m.kind == 3) = true
    · have e : revM L m = ⟨m.kind, (L : Int) - 1 - m.to, (L : Int) - 1 - m.fr, m.lo, m.hi⟩ := by
        unfold revM
        rw [Bool.or_assoc, k2, Bool.or_true]; rfl
      rw [if_pos k2] at h ⊢
      rw [e]
      simp only [Bool.and_eq_true, decide_eq_true_eq] at h ⊢
      exact ⟨⟨⟨by omega, by omega⟩, by omega⟩, h.2⟩
    · have e : revM L m = m := by
        unfold revM
        have k1' : (m.kind == 1) = false := by simpa using k1
        have k2' : (m.kind == 2 || m.kind == 3) = false := by simpa using k2
        rw [Bool.or_assoc, k1', k2']; rfl
      rw [if_neg k2] at h ⊢
      rw [e]; exact h
theorem rev_ok {r : Rl} {L : Nat} (h : Ok r L) : Ok (revR L r) L := by
  refine ⟨h.feet, h.one, h.nine, by unfold revR; rw [List.length_map]; exact h.ten, fun m hm => ?_⟩
  obtain ⟨x, hx, rfl⟩ := List.mem_map.1 hm
  exact revM_described h.feet (h.marks x hx)
theorem rev_tears (L : Nat) (r : Rl) : tearsL (revR L r) = (tearsL r).map (revM L) ∧ claimsL (revR L r) = (claimsL r).map (revM L) := by
  unfold tearsL claimsL revR
  dsimp only
  rw [List.filter_map, List.filter_map]
  constructor
  · congr 1; exact List.filter_congr fun m _ => revM_tear L m
  · congr 1; exact List.filter_congr fun m _ => by show (!isTear (revM L m)) = _; rw [revM_tear]
theorem isB_rev {L : Nat} {m : Mk} {b : Nat} (hk : isTear m = true) (h0 : 0 ≤ m.fr) (h1 : m.fr ≤ m.to) (h2 : m.to < L) (h : isB m b) : isB (revM L m) (revN L b) := by
  have e : revM L m = ⟨m.kind, (L : Int) - 1 - m.to, (L : Int) - 1 - m.fr, m.lo, m.hi⟩ := by unfold revM; rw [show (m.kind == 1) = true from hk]; rfl
  rw [e]
  rcases h with ⟨h3, rfl⟩ | ⟨a, d, g1, g2, g3, g4, g5, rfl⟩
  · exact Or.inl ⟨h3, rev_zero L⟩
  · refine Or.inr ⟨L - a - d, d, ?_, g2, ?_, g4, g5, rev_blk (by omega)⟩
    · dsimp only; omega
    · dsimp only; omega
theorem choice_rev {L : Nat} : ∀ (T : List Mk) (u : Nat), (∀ m ∈ T, isTear m = true ∧ 0 ≤ m.fr ∧ m.fr ≤ m.to ∧ m.to < L) → Choice T 0 u → Choice (T.map (revM L)) 0 (revN L u)
  | [], u, _, ⟨h0, h⟩ => ⟨h0, by rw [h]; exact rev_zero L⟩
  | m :: T, u, ht, h => by
    obtain ⟨t1, t2, t3, t4⟩ := ht m (by simp)
    rcases h with ⟨b, u', h1, h2, rfl⟩ | ⟨d', h0, _⟩
    · exact Or.inl ⟨revN L b, revN L u', isB_rev t1 t2 t3 t4 h1, choice_rev T u' (fun x hx => ht x (by simp [hx])) h2, rev_or L b u'⟩
    · omega
def chkRev (L t : Nat) : Bool := (popc 16 (revN L t) == popc 16 t && rc 16 (revN L t) false == rc 16 t false) && lr 16 (revN L t) 0 0 == lr 16 t 0 0
theorem chkRev_all : ((List.range 10).all fun L => (List.range (2 ^ L)).all fun t => chkRev L t) = true := by decide +kernel
theorem rev_counts {L t : Nat} (hL : L ≤ 9) (ht : t < 2 ^ L) : popc 16 (revN L t) = popc 16 t ∧ splicesL (revN L t) = splicesL t ∧ longestL (revN L t) = longestL t := by
  have h1 := List.all_eq_true.1 chkRev_all L (List.mem_range.2 (by omega))
  have h2 := List.all_eq_true.1 h1 t (List.mem_range.2 ht)
  unfold chkRev at h2
  simp only [Bool.and_eq_true, beq_iff_eq] at h2
  have h16 := two_pow_le (a := L) (b := 16) (by omega)
  have hr := revN_lt L t
  refine ⟨h2.1.1, ?_, ?_⟩
  · rw [splices_rc _ (by omega), splices_rc _ (by omega), h2.1.2]
  · rw [longest_lr _ (by omega), longest_lr _ (by omega), h2.2]
theorem partN_blk {m : Mk} (h : m.fr.toNat ≤ m.to.toNat + 1) : partN m = blkN m.fr.toNat (m.to.toNat + 1 - m.fr.toNat) := by
  unfold partN blkN
  rw [Nat.sub_mul, ← Nat.pow_add, Nat.one_mul]
  congr 2; omega
theorem partN_rev {L : Nat} {m : Mk} (hk : m.kind = 2 ∨ m.kind = 3) (h0 : 0 ≤ m.fr) (h1 : m.fr ≤ m.to) (h2 : m.to < L) : partN (revM L m) = revN L (partN m) ∧ partN m < 2 ^ L := by
  have e : revM L m = ⟨m.kind, (L : Int) - 1 - m.to, (L : Int) - 1 - m.fr, m.lo, m.hi⟩ := by
    unfold revM
    rcases hk with h | h <;> rw [h] <;> rfl
  have e1 : partN m = blkN m.fr.toNat (m.to.toNat + 1 - m.fr.toNat) := partN_blk (by omega)
  rw [e1, rev_blk (by omega), e, partN_blk (by dsimp only; omega)]
  refine ⟨?_, blk_lt (by omega)⟩
  dsimp only
  congr 1 <;> omega
theorem claim_rev {L : Nat} {m : Mk} {f : Int} (hf : f = L) (hL : L ≤ 9) (hd : described m f = true) (ht : isTear m = false) {t : Nat} (h : t < 2 ^ L) : claimT (revM L m) (revN L t) = claimT m t := by
  obtain ⟨c1, c2, _⟩ := rev_counts hL h
  have e23 : m.kind = 2 ∨ m.kind = 3 → (((revN L t &&& partN (revM L m) : Nat) : Int) == (partN (revM L m) : Int)) = (((t &&& partN m : Nat) : Int) == (partN m : Int)) := by
    intro hk
    have hb : 0 ≤ m.fr ∧ m.fr ≤ m.to ∧ m.to < f := by
      unfold described at hd
      have k1 : ¬(m.kind == 1) = true := by rcases hk with h | h <;> rw [h] <;> decide
      have k2 : (m.kind == 2 || m.kind == 3) = true := by rcases hk with h | h <;> rw [h] <;> rfl
      rw [if_neg k1, if_pos k2] at hd
      simp only [Bool.and_eq_true, decide_eq_true_eq] at hd
      exact ⟨hd.1.1.1, hd.1.1.2, hd.1.2⟩
    obtain ⟨p1, p2⟩ := partN_rev (L := L) hk hb.1 hb.2.1 (by rw [← hf]; exact hb.2.2)
    rw [p1, ← rev_and, Bool.eq_iff_iff]
    simp only [beq_iff_eq]
    have hlt : t &&& partN m < 2 ^ L := Nat.lt_of_le_of_lt Nat.and_le_left h
    constructor
    · intro he
      have he2 : revN L (t &&& partN m) = revN L (partN m) := by omega
      have := congrArg (revN L) he2
      rw [rev_rev hlt, rev_rev p2] at this
      rw [this]
    · intro he
      have he2 : t &&& partN m = partN m := by omega
      rw [he2]
  unfold claimT
  rw [revM_kind]
  by_cases k2 : (m.kind == 2) = true
  · rw [if_pos k2, if_pos k2]
    exact e23 (Or.inl (by simpa using k2))
  · rw [if_neg k2, if_neg k2]
    by_cases k3 : (m.kind == 3) = true
    · rw [if_pos k3, if_pos k3]
      have := e23 (Or.inr (by simpa using k3))
      rw [bne, bne, this]
    · rw [if_neg k3, if_neg k3]
      have k1 : (m.kind == 1) = false := ht
      have e : revM L m = m := by
        unfold revM
        have k2' : (m.kind == 2) = false := by simpa using k2
        have k3' : (m.kind == 3) = false := by simpa using k3
        rw [k1, k2', k3']; rfl
      rw [e, c1, c2]
theorem rev_mem1 {r : Rl} {L t : Nat} (h : Ok r L) (ht : t ∈ truthsL r L) : revN L t ∈ truthsL (revR L r) L := by
  have h9 := h.nine
  have hlt := truths_lt h ht
  rw [truths_mem h] at ht
  rw [truths_mem (rev_ok h)]
  obtain ⟨⟨g, h1, rfl⟩, h2⟩ := ht
  obtain ⟨e1, e2⟩ := rev_tears L r
  unfold IsT
  rw [e1, e2]
  refine ⟨⟨revN L g, choice_rev _ g (fun m hm => ?_) h1, rev_andn L g (by omega)⟩, fun m hm => ?_⟩
  · obtain ⟨t1, t2, t3, t4, _⟩ := h.tearN m hm
    exact ⟨(List.mem_filter.1 hm).2, t3, by omega, by omega⟩
  · obtain ⟨x, hx, rfl⟩ := List.mem_map.1 hm
    have hxt : isTear x = false := by simpa using (List.mem_filter.1 hx).2
    rw [claim_rev h.feet h9 (h.marks x (claims_sub r x hx)) hxt hlt]
    exact h2 x hx
theorem rev_mem2 {r : Rl} {L s : Nat} (h : Ok r L) (hs : s ∈ truthsL (revR L r) L) : revN L s ∈ truthsL r L := by
  have := rev_mem1 (rev_ok h) hs
  rwa [revR_revR] at this
theorem rev_len {r : Rl} {L : Nat} (h : Ok r L) : (truthsL r L).length = (truthsL (revR L r) L).length := by
  have hnd : ((truthsL r L).map (revN L)).Nodup := by
    unfold List.Nodup
    rw [List.pairwise_map]
    refine List.Pairwise.imp_of_mem ?_ (truths_nodup h)
    intro a b ha hb hab he
    have := congrArg (revN L) he
    rw [rev_rev (truths_lt h ha), rev_rev (truths_lt h hb)] at this
    exact hab this
  have := len_of_mem hnd (truths_nodup (rev_ok h)) fun x => by
    rw [List.mem_map]
    constructor
    · rintro ⟨t, ht, rfl⟩; exact rev_mem1 h ht
    · intro hx
      exact ⟨revN L x, rev_mem2 h hx, rev_rev (truths_lt (rev_ok h) hx)⟩
  rwa [List.length_map] at this
theorem span_map {r o : Rl} (h0 : checkR r = 0) (h1 : checkR o = 0) (f : Nat → Nat) (c : Nat → Nat) (ha : ∀ t ∈ TL r, f t ∈ TL o ∧ c (f t) = c t) (hb : ∀ t ∈ TL o, f t ∈ TL r ∧ c (f t) = c t) : lowT r c = lowT o c ∧ highT r c = highT o c := by
  by_cases hne : TL o = []
  · have hr : TL r = [] := List.eq_nil_iff_forall_not_mem.2 fun t ht => by have := (ha t ht).1; rw [hne] at this; cases this
    unfold lowT highT
    rw [if_pos h0, if_pos h0, if_pos h1, if_pos h1, hr, hne]
    exact ⟨rfl, rfl⟩
  · have hr : TL r ≠ [] := fun h => by
      obtain ⟨t, ht⟩ := List.exists_mem_of_ne_nil _ hne
      have := (hb t ht).1; rw [h] at this; cases this
    obtain ⟨a1, t1, a2, a3⟩ := low_spec h0 hr c
    obtain ⟨b1, t2, b2, b3⟩ := high_spec h0 hr c
    obtain ⟨c1, t3, c2, c3⟩ := low_spec h1 hne c
    obtain ⟨d1, t4, d2, d3⟩ := high_spec h1 hne c
    have e1 := a1 _ (hb t3 c2).1
    have e2 := b1 _ (hb t4 d2).1
    have e3 := c1 _ (ha t1 a2).1
    have e4 := d1 _ (ha t2 b2).1
    rw [(hb t3 c2).2] at e1
    rw [(hb t4 d2).2] at e2
    rw [(ha t1 a2).2] at e3
    rw [(ha t2 b2).2] at e4
    omega
end Go.Ab.T
end

section
namespace Go.Ab.T
set_option maxRecDepth 8000
set_option linter.unusedSimpArgs false
set_option linter.unusedVariables false
set_option maxHeartbeats 4000000
theorem back_alike {r : Rl} (hr : Near r) (h0 : checkR r = 0) (n : Int) (n1 : 0 ≤ n) (n2 : n < r.feet) : RV ft 49 [encR r, encR (revR r.feet.toNat r), I64 n, I64 (r.feet - 1 - n)] (.bool true) := by
  have hok := hr.ok h0
  have h9 := hok.nine
  obtain ⟨o, ho⟩ : ∃ o, o = revR r.feet.toNat r := ⟨_, rfl⟩
  rw [← ho]
  have hoko : Ok o r.feet.toNat := by rw [ho]; exact rev_ok hok
  have hno := ok_near hoko
  have h1 := ok_check hoko
  have hf : o.feet = r.feet := by rw [ho]; rfl
  have hTo : TL o = truthsL o r.feet.toNat := by show truthsL o o.feet.toNat = _; rw [hf]
  have ha : ∀ t ∈ TL r, revN r.feet.toNat t ∈ TL o := fun t ht => by rw [hTo, ho]; exact rev_mem1 hok ht
  have hb : ∀ t ∈ TL o, revN r.feet.toNat t ∈ TL r := fun t ht => by rw [hTo, ho] at ht; exact rev_mem2 hok ht
  have hlen : (TL r).length = (TL o).length := by rw [hTo, ho]; exact rev_len hok
  have hspan : ∀ c ∈ cnts, lowT r c = lowT o c ∧ highT r c = highT o c := by
    intro c hc
    have hcc : ∀ t, t < 2 ^ r.feet.toNat → c (revN r.feet.toNat t) = c t := fun t ht => by
      obtain ⟨c1, c2, c3⟩ := rev_counts h9 ht
      unfold cnts at hc
      simp only [List.mem_cons, List.not_mem_nil, or_false] at hc
      rcases hc with rfl | rfl | rfl
      · exact c1
      · exact c2
      · exact c3
    exact span_map h0 h1 (revN r.feet.toNat) c (fun t ht => ⟨ha t ht, hcc t (truths_lt hok ht)⟩) fun t ht => ⟨hb t ht, hcc t (by rw [hTo] at ht; exact truths_lt hoko ht)⟩
  have hfoot : footK r n = footK o (r.feet - 1 - n) ∧ footE r n = footE o (r.feet - 1 - n) := by
    by_cases hne : TL o = []
    · have hrn : TL r = [] := List.length_eq_zero_iff.1 (by rw [hlen, hne]; rfl)
      have e1 : footE r n = 3 := by unfold footE wholeE; rw [if_pos h0, if_pos ⟨n1, Int.le_refl _, n2⟩, errT_none h0 hrn]
      have e2 : footE o (r.feet - 1 - n) = 3 := by unfold footE wholeE; rw [if_pos h1, if_pos ⟨by omega, Int.le_refl _, by omega⟩, errT_none h1 hne]
      have k1 : footK r n = 0 := by unfold footK; rw [if_neg (by show ¬footE r n = 0; rw [e1]; decide)]
      have k2 : footK o (r.feet - 1 - n) = 0 := by unfold footK; rw [if_neg (by show ¬footE o (r.feet - 1 - n) = 0; rw [e2]; decide)]
      rw [e1, e2, k1, k2]; exact ⟨rfl, rfl⟩
    · have hrn : TL r ≠ [] := fun h => hne (List.length_eq_zero_iff.1 (by rw [← hlen, h]; rfl))
      obtain ⟨a1, a2⟩ := footK_eq hr h0 n1 n2 hrn
      obtain ⟨b1, b2⟩ := footK_eq hno h1 (show 0 ≤ r.feet - 1 - n by omega) (by omega) hne
      rw [a1, a2, b1, b2]
      refine ⟨?_, rfl⟩
      have hbit : ∀ t, (revN r.feet.toNat t).testBit (r.feet - 1 - n).toNat = t.testBit n.toNat := fun t => by
        rw [revN_bit, decide_eq_true (show (r.feet - 1 - n).toNat < r.feet.toNat by omega), Bool.true_and]
        congr 1; omega
      have sub : ∀ p : Bool → Bool, ((knownL r).all fun t => p (t.testBit n.toNat)) = ((knownL o).all fun t => p (t.testBit (r.feet - 1 - n).toNat)) := fun p => by
        rw [Bool.eq_iff_iff, List.all_eq_true, List.all_eq_true]
        constructor
        · intro h t ht
          have ht' := (known_mem hno h1 t).1 ht
          have := h _ ((known_mem hr h0 _).2 (hb t ht'))
          rw [← hbit, rev_rev (by rw [hTo] at ht'; exact truths_lt hoko ht')] at this
          exact this
        · intro h t ht
          have ht' := (known_mem hr h0 t).1 ht
          have := h _ ((known_mem hno h1 _).2 (ha t ht'))
          rw [hbit] at this
          exact this
      unfold footOf
      rw [sub fun b => b, sub fun b => !b]
  exact alike_ok r o hr hno h0 h1 hlen hspan n _ hfoot.1 hfoot.2
def curM (L : Nat) (l : List Mk) (k : Nat) : List Mk := (l.take k).map (revM L) ++ l.drop k
theorem cur_split {L k : Nat} {l : List Mk} {x : Mk} (h : l[k]? = some x) : curM L l k = (l.take k).map (revM L) ++ x :: l.drop (k + 1) ∧ curM L l (k + 1) = (l.take k).map (revM L) ++ revM L x :: l.drop (k + 1) := by
  have hk := (List.getElem?_eq_some_iff.1 h).1
  have hx : l[k] = x := (List.getElem?_eq_some_iff.1 h).2
  unfold curM
  constructor
  · rw [List.drop_eq_getElem_cons hk, hx]
  · rw [List.take_add_one, h]; simp
theorem cur_get {L k : Nat} {l : List Mk} {x : Mk} (h : l[k]? = some x) : (curM L l k)[k]? = some x := by
  have hk := (List.getElem?_eq_some_iff.1 h).1
  rw [(cur_split h).1, List.getElem?_append_right (by rw [List.length_map, List.length_take]; omega), List.length_map, List.length_take, Nat.min_eq_left (by omega), Nat.sub_self]; rfl
theorem cur_set {L k : Nat} {l : List Mk} {x : Mk} (h : l[k]? = some x) : (curM L l k).set k (revM L x) = curM L l (k + 1) := by
  have hk := (List.getElem?_eq_some_iff.1 h).1
  obtain ⟨e1, e2⟩ := cur_split (L := L) h
  rw [e1, e2, List.set_append_right _ _ (by rw [List.length_map, List.length_take]; omega), List.length_map, List.length_take, Nat.min_eq_left (by omega), Nat.sub_self]; rfl
theorem cur_len (L : Nat) (l : List Mk) (k : Nat) (h : k ≤ l.length) : (curM L l k).length = l.length := by
  unfold curM; rw [List.length_append, List.length_map, List.length_take, List.length_drop]; omega
theorem cur_all (L : Nat) (l : List Mk) : curM L l l.length = l.map (revM L) := by
  unfold curM; rw [List.take_of_length_le (Nat.le_refl _), List.drop_of_length_le (Nat.le_refl _), List.append_nil]
theorem stF (blks : List Blk) (toks : List (Nat × Nat)) (id k : Nat) (ms : List Mk) (x : Mk) (v : Int) (hb : blks[id]? = some (.live (ms.map encM) 5)) (hx : ms[k]? = some x) : storeAt ⟨blks, toks⟩ (.ptr id k 1) (I64 v) 1 = some ⟨blks.set id (.live ((ms.set k ⟨x.kind, v, x.to, x.lo, x.hi⟩).map encM) 5), toks⟩ := by
  simp only [storeAt, hb, List.getElem?_map, hx, Option.map_some, List.map_set]
  rfl
theorem stT (blks : List Blk) (toks : List (Nat × Nat)) (id k : Nat) (ms : List Mk) (x : Mk) (v : Int) (hb : blks[id]? = some (.live (ms.map encM) 5)) (hx : ms[k]? = some x) : storeAt ⟨blks, toks⟩ (.ptr id k 2) (I64 v) 1 = some ⟨blks.set id (.live ((ms.set k ⟨x.kind, x.fr, v, x.lo, x.hi⟩).map encM) 5), toks⟩ := by
  simp only [storeAt, hb, List.getElem?_map, hx, Option.map_some, List.map_set]
  rfl
theorem ReelBack_run (r : Rl) (n : Int) : RV ft 10 [encR r, I64 n] (.bool true) := by
  refine RV_of ft10 rfl ?_
  simp only [c10, r10]
  cases hr : readyR r
  case false => simp only [go_sem, Nat.reduceEqDiff, Nat.reduceAdd, Nat.reduceLT, Nat.reduceLeDiff, reduceIte, and_self, decide_true, decide_false, beq_self_eq_true, sn_ms, hot_ms, WB40, WVH_eq (ready_ok r), true_and, hr, WB15, WVH_eq works_ok]
  cases c2 : decide (n < 0)
  case true => simp only [go_sem, Nat.reduceEqDiff, Nat.reduceAdd, Nat.reduceLT, Nat.reduceLeDiff, reduceIte, and_self, decide_true, decide_false, beq_self_eq_true, sn_ms, hot_ms, WB40, WVH_eq (ready_ok r), true_and, hr, c2, WB15, WVH_eq works_ok]
  cases c3 : decide (r.feet ≤ n)
  case true => simp only [go_sem, Nat.reduceEqDiff, Nat.reduceAdd, Nat.reduceLT, Nat.reduceLeDiff, reduceIte, and_self, decide_true, decide_false, beq_self_eq_true, sn_ms, hot_ms, WB40, WVH_eq (ready_ok r), true_and, hr, c2, c3, WB15, WVH_eq works_ok]
  obtain ⟨hn, h0, hok⟩ := ready_spec hr
  have h10 := hok.ten
  have h9 := hok.nine
  have h1 := hok.one
  have hfe := hok.feet
  have n1 := of_decide_eq_false c2
  have n2 := of_decide_eq_false c3
  have hal := back_alike hn h0 n (by omega) (by omega)
  have hwL : IntKind.i64.wrap (IntKind.i64.wrap (r.feet - 1) - n) = r.feet - 1 - n := by
    rw [wrap_i64 (r.feet - 1) (by omega) (by omega), wrap_i64 _ (by omega) (by omega)]
  simp only [go_sem, Nat.reduceEqDiff, Nat.reduceAdd, Nat.reduceLT, Nat.reduceLeDiff, reduceIte, and_self, decide_true, decide_false, beq_self_eq_true, sn_ms, hot_ms, WB40, WVH_eq (ready_ok r), true_and, hr, c2, c3, WB16]
  refine Copy_ok r hn.few _ (fun he => ?_) (fun he => ?_)
  · obtain ⟨f, ms⟩ := r
    dsimp only at he
    subst he
    simp only [encR, revR, List.map_nil] at hal
    simp only [go_sem, Nat.reduceEqDiff, Nat.reduceAdd, Nat.reduceLT, Nat.reduceLeDiff, reduceIte, and_self, decide_true, decide_false, beq_self_eq_true, hot_ms, true_and, encR, List.map_nil, join_none, shift_none, List.any_nil, Bool.false_eq_true]
    refine WL_inv (α := Unit) (fun _ e mm => e 1 = I64 n ∧ e 2 = .ptr 0 0 0 ∧ e 5 = .ptr 3 0 0 ∧ e 6 = I64 0 ∧ mm.blks[0]? = some (.live [.agg [I64 f, .sl [] .unk]] 2) ∧ mm.blks[3]? = some (.live [.agg [I64 f, .sl [] .tight]] 2)) (fun _ => 0) () ?_ ?_
    · simp only [go_sem, Nat.reduceEqDiff, Nat.reduceAdd, Nat.reduceLT, Nat.reduceLeDiff, reduceIte, and_self, decide_true, decide_false, beq_self_eq_true]
    rintro _ e ⟨blks, toks⟩ ⟨g1, g2, g5, g6, hb0, hb3⟩
    dsimp only at hb0 hb3 hwL
    simp only [go_sem, Nat.reduceEqDiff, Nat.reduceAdd, Nat.reduceLT, Nat.reduceLeDiff, reduceIte, and_self, decide_true, decide_false, beq_self_eq_true, g1, g2, g5, g6, hb0, hb3, List.length_nil, show decide ((0 : Int) < ((0 : Nat) : Int)) = false from rfl, hwL, WB49, List.any_nil, List.map_nil, WVH_eq hal, true_and, WB15, WVH_eq works_ok]
  · simp only [go_sem, Nat.reduceEqDiff, Nat.reduceAdd, Nat.reduceLT, Nat.reduceLeDiff, reduceIte, and_self, decide_true, decide_false, beq_self_eq_true, hot_ms, true_and, join_copy, shift_copy]
    obtain ⟨L, hL⟩ : ∃ L, L = r.feet.toNat := ⟨_, rfl⟩
    rw [← hL] at hal hok h9 h1 hfe
    refine WL_inv (α := Nat) (fun k e mm => e 1 = I64 n ∧ e 2 = .ptr 0 0 0 ∧ e 5 = .ptr 4 0 0 ∧ e 6 = I64 k ∧ k ≤ r.marks.length ∧ mm.blks[0]? = some (.live [encR r] 2) ∧ mm.blks[3]? = some (.live ((curM L r.marks k).map encM) 5) ∧ mm.blks[4]? = some (.live [.agg [I64 r.feet, .ref 3 0 r.marks.length]] 2)) (fun k => r.marks.length - k) 0 ?_ ?_
    · simp only [go_sem, Nat.reduceEqDiff, Nat.reduceAdd, Nat.reduceLT, Nat.reduceLeDiff, reduceIte, and_self, decide_true, decide_false, beq_self_eq_true]
      exact ⟨trivial, trivial, trivial, rfl, Nat.zero_le _, trivial, rfl, trivial⟩
    rintro k e ⟨blks, toks⟩ ⟨g1, g2, g5, g6, hk, hb0, hb3, hb4⟩
    dsimp only at hb0 hb3 hb4
    by_cases hlt : k < r.marks.length
    case neg =>
      obtain rfl : k = r.marks.length := by omega
      rw [cur_all] at hb3
      have h1' : ((r.marks.map (revM L)).map encM).take r.marks.length = (r.marks.map (revM L)).map encM := List.take_of_length_le (by rw [List.length_map, List.length_map]; omega)
      have hal' : RV ft 49 [encR r, .agg [.int .i64 r.feet, .sl ((r.marks.map (revM L)).map encM) .unk], I64 n, I64 (r.feet - 1 - n)] (.bool true) := hal
      have hsn : ∀ m : Mem, ((r.marks.map (revM L)).map encM).map (snap m 7) = (r.marks.map (revM L)).map encM := fun m => sn_ms m 5 _
      simp only [go_sem, Nat.reduceEqDiff, Nat.reduceAdd, Nat.reduceLT, Nat.reduceLeDiff, reduceIte, and_self, decide_true, decide_false, beq_self_eq_true, g1, g2, g5, g6, hb0, hb3, hb4, dec_ge (Nat.le_refl r.marks.length), hwL, WB49, Mem.elems, Nat.zero_add, h1', List.length_map, Nat.le_refl, sn_ms, hot_ms, WVH_eq hal', true_and, WB15, WVH_eq works_ok]
    have hw : IntKind.i64.wrap ((k : Int) + 1) = ((k + 1 : Nat) : Int) := by rw [wrap_i64 _ (by omega) (by omega)]; rfl
    obtain ⟨x, hx⟩ : ∃ x, r.marks[k]? = some x := ⟨r.marks[k], by simp⟩
    have hcg := cur_get (L := L) hx
    have hcs := cur_set (L := L) hx
    have hcl := cur_len L r.marks k hk
    have hdx := hok.marks x (List.mem_of_getElem? hx)
    have hi1 := idx5 blks toks 3 r.marks.length k _ hb3 hlt
    have hl1 := ld5 blks toks 3 k _ x hb3 hcg
    have hlb := (List.getElem?_eq_some_iff.1 hb4).1
    obtain ⟨B, hB⟩ : ∃ B, B = blks ++ [Blk.live [encM x] 5] := ⟨_, rfl⟩
    have hB0 : B[0]? = some (.live [encR r] 2) := by rw [hB]; exact get_app hb0
    have hB3 : B[3]? = some (.live ((curM L r.marks k).map encM) 5) := by rw [hB]; exact get_app hb3
    have hB4 : B[4]? = some (.live [.agg [I64 r.feet, .ref 3 0 r.marks.length]] 2) := by rw [hB]; exact get_app hb4
    have hBn : B[blks.length]? = some (.live [encM x] 5) := by rw [hB]; exact get_last _ _
    cases hk3 : (x.kind == 1 || x.kind == 2 || x.kind == 3)
    case false =>
      have hrx : revM L x = x := by unfold revM; rw [hk3]; rfl
      rw [hrx] at hcs
      have hsame : curM L r.marks (k + 1) = curM L r.marks k := by
        rw [← hcs]
        apply List.ext_getElem?
        intro i
        by_cases hik : i = k
        · subst hik; rw [List.getElem?_set_self (by rw [hcl]; exact hlt), hcg]
        · rw [List.getElem?_set_ne (Ne.symm hik)]
      rw [Bool.or_eq_false_iff, Bool.or_eq_false_iff] at hk3
      obtain ⟨⟨k1, k2⟩, k3⟩ := hk3
      simp only [go_sem, Nat.reduceEqDiff, Nat.reduceAdd, Nat.reduceLT, Nat.reduceLeDiff, reduceIte, and_self, decide_true, decide_false, beq_self_eq_true, g1, g2, g5, g6, hb0, hb3, hb4, dec_lt hlt, hi1, hl1, k1, k2, k3, hw]
      refine Nx_of (k + 1) (by omega) ?_
      simp only [go_sem, Nat.reduceEqDiff, Nat.reduceAdd, Nat.reduceLT, Nat.reduceLeDiff, reduceIte, and_self, decide_true, decide_false, beq_self_eq_true, g1, g2, g5]
      refine ⟨trivial, trivial, trivial, trivial, by omega, get_app hb0, ?_, get_app hb4⟩
      rw [hsame]; exact get_app hb3
    case true =>
      have hrx : revM L x = ⟨x.kind, (L : Int) - 1 - x.to, (L : Int) - 1 - x.fr, x.lo, x.hi⟩ := by unfold revM; rw [hk3]; rfl
      have hbd : 0 ≤ x.fr ∧ x.fr ≤ x.to ∧ x.to < L := by
        unfold described at hdx
        by_cases q1 : (x.kind == 1) = true
        · rw [if_pos q1] at hdx
          simp only [Bool.and_eq_true, decide_eq_true_eq] at hdx
          omega
        · have q1' : (x.kind == 1) = false := by simpa using q1
          have q2 : (x.kind == 2 || x.kind == 3) = true := by rw [q1', Bool.false_or] at hk3; exact hk3
          rw [if_neg q1, if_pos q2] at hdx
          simp only [Bool.and_eq_true, decide_eq_true_eq] at hdx
          omega
      have hwa : IntKind.i64.wrap (IntKind.i64.wrap (r.feet - 1) - x.to) = (L : Int) - 1 - x.to := by
        rw [wrap_i64 (r.feet - 1) (by omega) (by omega), wrap_i64 _ (by omega) (by omega)]; omega
      have hwb : IntKind.i64.wrap (IntKind.i64.wrap (r.feet - 1) - x.fr) = (L : Int) - 1 - x.fr := by
        rw [wrap_i64 (r.feet - 1) (by omega) (by omega), wrap_i64 _ (by omega) (by omega)]; omega
      have hi2 := idx5 B toks 3 r.marks.length k _ hB3 hlt
      have hs1 := stF B toks 3 k _ x ((L : Int) - 1 - x.to) hB3 hcg
      obtain ⟨y, hy⟩ : ∃ y : Mk, y = ⟨x.kind, (L : Int) - 1 - x.to, x.to, x.lo, x.hi⟩ := ⟨_, rfl⟩
      rw [← hy] at hs1
      have h3l := (List.getElem?_eq_some_iff.1 hB3).1
      have hc1 : (B.set 3 (.live (((curM L r.marks k).set k y).map encM) 5))[3]? = some (.live (((curM L r.marks k).set k y).map encM) 5) := List.getElem?_set_self h3l
      have hy2 : ((curM L r.marks k).set k y)[k]? = some y := List.getElem?_set_self (by rw [hcl]; exact hlt)
      have hi3 := idx5 (B.set 3 (.live (((curM L r.marks k).set k y).map encM) 5)) toks 3 r.marks.length k _ hc1 hlt
      have hs2 := stT (B.set 3 (.live (((curM L r.marks k).set k y).map encM) 5)) toks 3 k _ y ((L : Int) - 1 - x.fr) hc1 hy2
      have hne3 : (blks.length != 3) = true := by simp; omega
      have hfinal : ((curM L r.marks k).set k y).set k ⟨y.kind, y.fr, (L : Int) - 1 - x.fr, y.lo, y.hi⟩ = curM L r.marks (k + 1) := by
        rw [List.set_set, ← hcs, hrx, hy]
      rw [hfinal] at hs2
      have hend : ∀ Z : Blk, B[0]? = some (.live [encR r] 2) → ((B.set 3 Z).set 3 (.live ((curM L r.marks (k + 1)).map encM) 5))[0]? = some (.live [encR r] 2) ∧ ((B.set 3 Z).set 3 (.live ((curM L r.marks (k + 1)).map encM) 5))[3]? = some (.live ((curM L r.marks (k + 1)).map encM) 5) ∧ ((B.set 3 Z).set 3 (.live ((curM L r.marks (k + 1)).map encM) 5))[4]? = some (.live [.agg [I64 r.feet, .ref 3 0 r.marks.length]] 2) := fun Z _ =>
        ⟨by rw [List.getElem?_set_ne (by omega), List.getElem?_set_ne (by omega)]; exact hB0, List.getElem?_set_self (by rw [List.length_set]; exact h3l), by rw [List.getElem?_set_ne (by omega), List.getElem?_set_ne (by omega)]; exact hB4⟩
      cases k1 : (x.kind == 1)
      all_goals cases k2 : (x.kind == 2)
      all_goals
        have k3 : (x.kind == 1) = false → (x.kind == 2) = false → (x.kind == 3) = true := fun h1 h2 => by rw [h1, h2] at hk3; simpa using hk3
        simp only [go_sem, Nat.reduceEqDiff, Nat.reduceAdd, Nat.reduceLT, Nat.reduceLeDiff, reduceIte, and_self, decide_true, decide_false, beq_self_eq_true, g1, g2, g5, g6, hb0, hb3, hb4, dec_lt hlt, hi1, hl1, k1, k2, k3, ← hB, hB0, hB3, hB4, hBn, hwa, hwb, hi2, hs1, hc1, hi3, hs2, hne3, show ((4 : Nat) != 3) = true from rfl, show ((0 : Nat) != 3) = true from rfl, Bool.and_self, hw]
        refine Nx_of (k + 1) (by omega) ?_
        simp only [go_sem, Nat.reduceEqDiff, Nat.reduceAdd, Nat.reduceLT, Nat.reduceLeDiff, reduceIte, and_self, decide_true, decide_false, beq_self_eq_true, g1, g2, g5]
        obtain ⟨z1, z2, z3⟩ := hend (.live (((curM L r.marks k).set k y).map encM) 5) hB0
        exact ⟨trivial, trivial, trivial, trivial, by omega, z1, z2, z3⟩
end Go.Ab.T
end
