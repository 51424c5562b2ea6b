/-
  A part of the proofs over this seat.
  (The texts AxM1 AxM2 AxR17 AxM3 AxM4 AxR18 AxR19, one behind the other.)
-/
import Derived.Test.YtbbpdlobjbpchaaDoorP2
set_option linter.unusedSimpArgs false
set_option linter.unusedVariables false
set_option linter.unusedSectionVars false
section
namespace Go.Ab.T
set_option maxRecDepth 8000
set_option linter.unusedSimpArgs false
set_option linter.unusedVariables false
/-! ### Which sets a family has -/
def memF (x : Fam) (s : Nat) : Bool := (x (s / 64)).testBit (s % 64)
theorem or_pow_off {x f : Nat} (h : x.testBit f = false) : x ||| 2 ^ f = x + 2 ^ f := by
  have h2 : x % 2 ^ (f + 1) = x % 2 ^ f := by
    rw [Nat.testBit_eq_decide_div_mod_eq] at h
    have h3 : x / 2 ^ f % 2 = 0 := by simp at h; omega
    rw [Nat.pow_succ, Nat.mod_mul, h3]; simp
  have hb : x % 2 ^ f < 2 ^ f := Nat.mod_lt _ (Nat.two_pow_pos f)
  have e1 : 2 ^ (f + 1) * (x / 2 ^ (f + 1)) + x % 2 ^ f = x := by rw [← h2]; exact Nat.div_add_mod x _
  have hlt : x % 2 ^ f < 2 ^ (f + 1) := by rw [Nat.pow_succ]; omega
  have hlt2 : 2 ^ f + x % 2 ^ f < 2 ^ (f + 1) := by rw [Nat.pow_succ]; omega
  have e2 := Nat.two_pow_add_eq_or_of_lt hlt (x / 2 ^ (f + 1))
  have e3 := Nat.two_pow_add_eq_or_of_lt hlt2 (x / 2 ^ (f + 1))
  have e4 := Nat.two_pow_add_eq_or_of_lt hb 1
  rw [Nat.mul_one] at e4
  have e5 : x + 2 ^ f = 2 ^ (f + 1) * (x / 2 ^ (f + 1)) + (2 ^ f + x % 2 ^ f) := by omega
  have hx : x = 2 ^ (f + 1) * (x / 2 ^ (f + 1)) ||| x % 2 ^ f := by rw [← e2, e1]
  refine (congrArg (fun y => y ||| 2 ^ f) hx).trans ?_
  rw [e5, e3, e4]
  rw [Nat.or_assoc, Nat.or_comm (x % 2 ^ f)]
theorem or_pow_on {x f : Nat} (h : x.testBit f = true) : x ||| 2 ^ f = x := by
  apply Nat.eq_of_testBit_eq
  intro i
  rw [Nat.testBit_or, Nat.testBit_two_pow]
  by_cases hi : f = i
  · subst hi; simp [h]
  · simp [hi]
theorem sub_pow_bit {s f : Nat} (h : s.testBit f = true) : 2 ^ f ≤ s ∧ (s - 2 ^ f).testBit f = false := by
  have h1 := Nat.ge_two_pow_of_testBit h
  refine ⟨h1, ?_⟩
  have h4 := Nat.testBit_two_pow_add_eq (s - 2 ^ f) f
  rw [show 2 ^ f + (s - 2 ^ f) = s by omega, h] at h4
  simpa using h4
theorem tab2_bit : ∀ f, f < 6 → ∀ t, t < 64 → ((tab2N[f]?).getD 0).testBit t = t.testBit f := by decide +kernel
theorem add_bit {x : Fam} (hx : F64 x) {f s : Nat} : memF (addF f x) s = (s.testBit f && (memF x s || memF x (s - 2 ^ f))) := by
  have ht : s % 64 < 64 := Nat.mod_lt _ (by decide)
  unfold memF addF
  by_cases h6 : f < 6
  · rw [if_pos h6]
    have hsb : s.testBit f = (s % 64).testBit f := by
      rw [show (64 : Nat) = 2 ^ 6 from rfl, Nat.testBit_mod_two_pow]; simp [h6]
    unfold addW
    rw [Nat.testBit_and, tab2_bit f h6 _ ht, ← hsb, Nat.testBit_or, show (18446744073709551616 : Nat) = 2 ^ 64 from rfl, Nat.testBit_mod_two_pow, Nat.testBit_mul_two_pow]
    cases hb : s.testBit f
    · simp
    · rw [hb] at hsb
      have h1 := (sub_pow_bit hsb.symm).1
      have h23 : (s - 2 ^ f) / 64 = s / 64 ∧ (s - 2 ^ f) % 64 = s % 64 - 2 ^ f := by
        clear hsb ht hb
        generalize 2 ^ f = p at *
        omega
      obtain ⟨h2, h3⟩ := h23
      rw [h2, h3]
      simp [ht, h1]
  · rw [if_neg h6]
    obtain ⟨g, rfl⟩ : ∃ g, f = g + 6 := ⟨f - 6, by omega⟩
    have hsb : (s / 64).testBit g = s.testBit (g + 6) := by
      rw [show (64 : Nat) = 2 ^ 6 from rfl, ← Nat.testBit_add]
    rw [Nat.add_sub_cancel, hsb]
    cases hb : s.testBit (g + 6)
    · simp
    · have h1 := (sub_pow_bit (hsb.trans hb)).1
      have hp : 2 ^ (g + 6) = 64 * 2 ^ g := by rw [Nat.pow_add]; omega
      have h2 : (s - 2 ^ (g + 6)) / 64 = s / 64 - 2 ^ g := by rw [hp]; omega
      have h3 : (s - 2 ^ (g + 6)) % 64 = s % 64 := by rw [hp]; omega
      rw [if_pos rfl, Nat.testBit_or, h2, h3]; simp
theorem add_mem {x : Fam} (hx : F64 x) {f s : Nat} : memF (addF f x) s = true ↔ ∃ s0, memF x s0 = true ∧ s = s0 ||| 2 ^ f := by
  rw [add_bit hx]
  constructor
  · intro h
    simp only [Bool.and_eq_true, Bool.or_eq_true] at h
    obtain ⟨h1, h2 | h2⟩ := h
    · exact ⟨s, h2, (or_pow_on h1).symm⟩
    · obtain ⟨h3, h4⟩ := sub_pow_bit h1
      exact ⟨s - 2 ^ f, h2, by rw [or_pow_off h4]; omega⟩
  · rintro ⟨s0, h1, rfl⟩
    cases hb : s0.testBit f
    · rw [or_pow_off hb]
      have h2 : (s0 + 2 ^ f).testBit f = true := by rw [Nat.add_comm, Nat.testBit_two_pow_add_eq, hb]; rfl
      simp [h2, h1]
    · rw [or_pow_on hb]; simp [hb, h1]
/-- The feet from one on, so many. -/
def blkN (a c : Nat) : Nat := (2 ^ c - 1) * 2 ^ a
theorem blkN_bit (a c i : Nat) : (blkN a c).testBit i = (decide (a ≤ i) && decide (i < a + c)) := by
  unfold blkN
  rw [Nat.testBit_mul_two_pow, Nat.testBit_two_pow_sub_one]
  by_cases h : a ≤ i
  · simp [h]; omega
  · simp [h]
theorem blkN_zero (a : Nat) : blkN a 0 = 0 := by simp [blkN]
theorem blkN_succ (a c : Nat) : blkN a (c + 1) = blkN a c ||| 2 ^ (a + c) := by
  apply Nat.eq_of_testBit_eq
  intro i
  rw [Nat.testBit_or, blkN_bit, blkN_bit, Nat.testBit_two_pow, Bool.eq_iff_iff]
  simp; omega
/-- What so many rounds of a tear's inner loop make. -/
theorem inner_mem {lo first : Nat} {x all : Fam} (hx : F64 x) (ha : F64 all) : ∀ c, F64 (innerT lo first x all c).1 ∧ F64 (innerT lo first x all c).2 ∧ (∀ s, memF (innerT lo first x all c).1 s = true ↔ ∃ s0, memF x s0 = true ∧ s = s0 ||| blkN first c) ∧
    (∀ s, memF (innerT lo first x all c).2 s = true ↔ memF all s = true ∨ ∃ d s0, 1 ≤ d ∧ d ≤ c ∧ lo ≤ d ∧ memF x s0 = true ∧ s = s0 ||| blkN first d)
  | 0 => by
    refine ⟨hx, ha, fun s => ?_, fun s => ?_⟩
    · rw [blkN_zero]; simp [innerT]
    · constructor
      · exact fun h => Or.inl h
      · rintro (h | ⟨d, s0, h1, h2, _⟩)
        · exact h
        · omega
  | c + 1 => by
    obtain ⟨i1, i2, i3, i4⟩ := inner_mem (lo := lo) (first := first) hx ha c
    have hstep : innerT lo first x all (c + 1) = stepT lo first (innerT lo first x all c) (first + c) := by
      unfold innerT
      rw [List.range'_1_concat, List.foldl_append]; rfl
    have hm1 : ∀ s, memF (addF (first + c) (innerT lo first x all c).1) s = true ↔ ∃ s0, memF x s0 = true ∧ s = s0 ||| blkN first (c + 1) := by
      intro s
      rw [add_mem i1]
      constructor
      · rintro ⟨s1, h1, rfl⟩
        obtain ⟨s0, h2, rfl⟩ := (i3 s1).1 h1
        exact ⟨s0, h2, by rw [blkN_succ, Nat.or_assoc]⟩
      · rintro ⟨s0, h1, rfl⟩
        exact ⟨s0 ||| blkN first c, (i3 _).2 ⟨s0, h1, rfl⟩, by rw [blkN_succ, Nat.or_assoc]⟩
    rw [hstep]
    refine ⟨(F64.step i1 i2).1, (F64.step i1 i2).2, hm1, fun s => ?_⟩
    have hfc : first + c - first + 1 = c + 1 := by omega
    unfold stepT
    rw [hfc]
    dsimp only
    by_cases hlo : lo ≤ c + 1
    · rw [if_pos hlo]
      have : memF (fun j => (innerT lo first x all c).2 j ||| addF (first + c) (innerT lo first x all c).1 j) s = (memF (innerT lo first x all c).2 s || memF (addF (first + c) (innerT lo first x all c).1) s) := by
        unfold memF; rw [Nat.testBit_or]
      rw [this, Bool.or_eq_true, i4, hm1]
      constructor
      · rintro ((h | ⟨d, s0, h1, h2, h3⟩) | ⟨s0, h1, h2⟩)
        · exact Or.inl h
        · exact Or.inr ⟨d, s0, h1, by omega, h3⟩
        · exact Or.inr ⟨c + 1, s0, by omega, Nat.le_refl _, hlo, h1, h2⟩
      · rintro (h | ⟨d, s0, h1, h2, h3, h4, h5⟩)
        · exact Or.inl (Or.inl h)
        · by_cases hd : d = c + 1
          · subst hd; exact Or.inr ⟨s0, h4, h5⟩
          · exact Or.inl (Or.inr ⟨d, s0, h1, by omega, h3, h4, h5⟩)
    · rw [if_neg hlo, i4]
      constructor
      · rintro (h | ⟨d, s0, h1, h2, h3⟩)
        · exact Or.inl h
        · exact Or.inr ⟨d, s0, h1, by omega, h3⟩
      · rintro (h | ⟨d, s0, h1, h2, h3, h4⟩)
        · exact Or.inl h
        · exact Or.inr ⟨d, s0, h1, by omega, h3, h4⟩
/-- A block that a tear can take out, as a set (none: the empty one). -/
def isBlk (fr to lo hi b : Nat) : Prop := (lo = 0 ∧ b = 0) ∨ ∃ a d, fr ≤ a ∧ 1 ≤ d ∧ a + d ≤ to + 1 ∧ lo ≤ d ∧ d ≤ hi ∧ b = blkN a d
theorem torn_mem {fr to lo hi : Nat} {x : Fam} (hx : F64 x) (hft : fr ≤ to + 1) (s : Nat) : memF (tornF fr to lo hi x) s = true ↔ ∃ s0 b, memF x s0 = true ∧ isBlk fr to lo hi b ∧ s = s0 ||| b := by
  have hz : F64 fun _ => 0 := fun _ => (by decide : B64 0)
  have ha0 : F64 (if lo = 0 then x else fun _ => 0) := by split; exact hx; exact hz
  have key : ∀ (k a : Nat) (all : Fam), F64 all → a + k = to + 1 →
      (memF ((List.range' a k).foldl (fun all first => (innerT lo first x all (min (to + 1 - first) hi)).2) all) s = true ↔
        memF all s = true ∨ ∃ f d s0, a ≤ f ∧ 1 ≤ d ∧ f + d ≤ to + 1 ∧ lo ≤ d ∧ d ≤ hi ∧ memF x s0 = true ∧ s = s0 ||| blkN f d) := by
    intro k
    induction k with
    | zero =>
      intro a all h hk
      simp only [List.range'_zero, List.foldl_nil]
      constructor
      · exact fun h => Or.inl h
      · rintro (h | ⟨f, d, s0, h1, h2, h3, _⟩)
        · exact h
        · omega
    | succ k ih =>
      intro a all h hk
      obtain ⟨_, i2, _, i4⟩ := inner_mem (lo := lo) (first := a) hx h (min (to + 1 - a) hi)
      rw [List.range'_succ, List.foldl_cons, ih (a + 1) _ i2 (by omega), i4]
      constructor
      · rintro ((h | ⟨d, s0, h1, h2, h3, h4, h5⟩) | ⟨f, d, s0, h1, h2, h3, h4, h5⟩)
        · exact Or.inl h
        · exact Or.inr ⟨a, d, s0, Nat.le_refl a, h1, by omega, h3, by omega, h4, h5⟩
        · exact Or.inr ⟨f, d, s0, by omega, h2, h3, h4, h5⟩
      · rintro (h | ⟨f, d, s0, h1, h2, h3, h4, h5, h6, h7⟩)
        · exact Or.inl (Or.inl h)
        · by_cases hf : f = a
          · subst hf; exact Or.inl (Or.inr ⟨d, s0, h2, by omega, h4, h6, h7⟩)
          · exact Or.inr ⟨f, d, s0, by omega, h2, h3, h4, h5, h6, h7⟩
  unfold tornF
  rw [key _ fr _ ha0 (by omega)]
  constructor
  · rintro (h | ⟨f, d, s0, h1, h2, h3, h4, h5, h6, h7⟩)
    · by_cases hl : lo = 0
      · rw [if_pos hl] at h
        exact ⟨s, 0, h, Or.inl ⟨hl, rfl⟩, by simp⟩
      · rw [if_neg hl] at h; simp [memF] at h
    · exact ⟨s0, _, h6, Or.inr ⟨f, d, h1, h2, h3, h4, h5, rfl⟩, h7⟩
  · rintro ⟨s0, b, h1, (⟨hl, rfl⟩ | ⟨f, d, h2, h3, h4, h5, h6, rfl⟩), rfl⟩
    · rw [if_pos hl]; exact Or.inl (by simpa using h1)
    · exact Or.inr ⟨f, d, s0, h2, h3, h4, h5, h6, h1, rfl⟩
end Go.Ab.T
end

section
namespace Go.Ab.T
set_option maxRecDepth 8000
set_option linter.unusedSimpArgs false
set_option linter.unusedVariables false
/-- A block that a mark, a tear, can take out. -/
def isB (m : Mk) (b : Nat) : Prop := isBlk m.fr.toNat m.to.toNat m.lo.toNat m.hi.toNat b
/-- What tears can take out if just so many of them are dropped. -/
def Choice : List Mk → Nat → Nat → Prop
  | [], d, u => d = 0 ∧ u = 0
  | m :: ts, d, u => (∃ b u', isB m b ∧ Choice ts d u' ∧ u = b ||| u') ∨ ∃ d', d = d' + 1 ∧ Choice ts d' u
theorem memF_or (x y : Fam) (s : Nat) : memF (fun j => x j ||| y j) s = (memF x s || memF y s) := by unfold memF; rw [Nat.testBit_or]
theorem stepM_mem {fs : Nat → Fam} (hF : ∀ i, F64 (fs i)) (m : Mk) (hm : m.fr.toNat ≤ m.to.toNat + 1) (k s : Nat) :
    memF (stepM fs m k) s = true ↔ (∃ s0 b, memF (fs k) s0 = true ∧ isB m b ∧ s = s0 ||| b) ∨ ∃ k', k = k' + 1 ∧ memF (fs k') s = true := by
  unfold stepM
  cases k with
  | zero =>
    unfold stepK
    rw [torn_mem (hF 0) hm]
    constructor
    · exact fun h => Or.inl h
    · rintro (h | ⟨k', h, _⟩)
      · exact h
      · omega
  | succ k =>
    unfold stepK
    rw [memF_or, Bool.or_eq_true, torn_mem (hF (k + 1)) hm]
    refine or_congr_right ?_
    constructor
    · exact fun h => ⟨k, rfl, h⟩
    · rintro ⟨k', h, h2⟩
      obtain rfl : k' = k := by omega
      exact h2
theorem fold_mem : ∀ (ts : List Mk) (fs : Nat → Fam), (∀ i, F64 (fs i)) → (∀ m ∈ ts, m.fr.toNat ≤ m.to.toNat + 1) → ∀ k s,
    (memF (ts.foldl stepM fs k) s = true ↔ ∃ k0 d s0 u, k = k0 + d ∧ memF (fs k0) s0 = true ∧ Choice ts d u ∧ s = s0 ||| u)
  | [], fs, hF, hm, k, s => by
    constructor
    · exact fun h => ⟨k, 0, s, 0, rfl, h, ⟨rfl, rfl⟩, by simp⟩
    · rintro ⟨k0, d, s0, u, rfl, h, ⟨rfl, rfl⟩, rfl⟩
      simpa using h
  | m :: ts, fs, hF, hm, k, s => by
    rw [List.foldl_cons, fold_mem ts _ (F64.stepM hF m) (fun x hx => hm x (List.mem_cons_of_mem _ hx))]
    constructor
    · rintro ⟨k0, d, s0, u, rfl, h, hc, rfl⟩
      rcases (stepM_mem hF m (hm m (by simp)) k0 s0).1 h with ⟨s1, b, h1, h2, rfl⟩ | ⟨k', rfl, h1⟩
      · exact ⟨k0, d, s1, b ||| u, rfl, h1, Or.inl ⟨b, u, h2, hc, rfl⟩, by rw [Nat.or_assoc]⟩
      · exact ⟨k', d + 1, s0, u, by omega, h1, Or.inr ⟨d, rfl, hc⟩, rfl⟩
    · rintro ⟨k0, d, s0, u, rfl, h, (⟨b, u', h1, h2, rfl⟩ | ⟨d', rfl, h1⟩), rfl⟩
      · exact ⟨k0, d, s0 ||| b, u', rfl, (stepM_mem hF m (hm m (by simp)) _ _).2 (Or.inl ⟨s0, b, h, h1, rfl⟩), h2, by rw [Nat.or_assoc]⟩
      · exact ⟨k0 + 1, d', s0, u, by omega, (stepM_mem hF m (hm m (by simp)) _ _).2 (Or.inr ⟨k0, rfl, h⟩), h1, rfl⟩
theorem taken_mem (ts : List Mk) (hm : ∀ m ∈ ts, m.fr.toNat ≤ m.to.toNat + 1) (k s : Nat) : memF (takenF ts k) s = true ↔ Choice ts k s := by
  have hF0 : ∀ i, F64 (fs0 i) := fun i j => by unfold fs0; split <;> (show _ < _; omega)
  unfold takenF
  rw [fold_mem ts fs0 hF0 hm]
  constructor
  · rintro ⟨k0, d, s0, u, rfl, h, hc, rfl⟩
    have h0 : k0 = 0 ∧ s0 = 0 := by
      unfold memF fs0 at h
      by_cases hk : k0 = 0 ∧ s0 / 64 = 0
      · rw [if_pos hk] at h
        refine ⟨hk.1, ?_⟩
        have : s0 % 64 = 0 := by
          rw [Nat.testBit_one_eq_true_iff_self_eq_zero] at h; exact h
        omega
      · rw [if_neg hk, Nat.zero_testBit] at h; cases h
    obtain ⟨rfl, rfl⟩ := h0
    simpa using hc
  · intro hc
    exact ⟨0, k, 0, s, by omega, by simp [memF, fs0], hc, by simp⟩
/-! ### The sets of a family, in order -/
theorem setsFrom_eq (x : Fam) (W : Nat) : ∀ n, n ≤ W → setsFrom x W n = (List.range' (64 * (W - n)) (64 * n)).filter (memF x)
  | 0, _ => by simp [setsFrom]
  | n + 1, h => by
    have ih := setsFrom_eq x W n (by omega)
    simp only [setsFrom]
    rw [ih, show 64 * (n + 1) = 64 + 64 * n by omega, ← List.range'_append_1, List.filter_append, show 64 * (W - (n + 1)) + 64 = 64 * (W - n) by omega]
    congr 1
    unfold bits64
    generalize W - (n + 1) = j
    have h1 : List.range' (64 * j) 64 = (List.range 64).map fun t => j * 64 + t := by
      rw [List.range_eq_range', List.map_add_range']
      simp [Nat.mul_comm]
    rw [h1, List.filter_map]
    congr 1
    refine List.filter_congr fun t ht => ?_
    have ht' := List.mem_range.1 ht
    simp only [Function.comp, memF]
    rw [show (j * 64 + t) / 64 = j by omega, show (j * 64 + t) % 64 = t by omega]
theorem gone_eq (r : Rl) (L k : Nat) : goneL r L k = (List.range (64 * 2 ^ (L - 6))).filter (memF (takenF (tearsL r) k)) := by
  unfold goneL
  rw [setsFrom_eq _ _ _ (Nat.le_refl _), Nat.sub_self, Nat.mul_zero, List.range_eq_range']
theorem blk_lt {a d L : Nat} (h : a + d ≤ L) : blkN a d < 2 ^ L := by
  refine Nat.lt_pow_two_of_testBit _ fun i hi => ?_
  rw [blkN_bit]; simp; omega
theorem isB_lt {m : Mk} {b L : Nat} (h : isB m b) (hL : m.to.toNat < L) : b < 2 ^ L := by
  rcases h with ⟨_, rfl⟩ | ⟨a, d, h1, h2, h3, h4, h5, rfl⟩
  · exact Nat.two_pow_pos L
  · exact blk_lt (by omega)
theorem choice_lt {L : Nat} : ∀ {ts : List Mk} {d u : Nat}, (∀ m ∈ ts, m.to.toNat < L) → Choice ts d u → u < 2 ^ L
  | [], d, u, _, ⟨_, h⟩ => by rw [h]; exact Nat.two_pow_pos L
  | m :: ts, d, u, hm, h => by
    rcases h with ⟨b, u', h1, h2, rfl⟩ | ⟨d', _, h1⟩
    · exact or_lt _ _ _ (isB_lt h1 (hm m (by simp))) (choice_lt (fun x hx => hm x (List.mem_cons_of_mem _ hx)) h2)
    · exact choice_lt (fun x hx => hm x (List.mem_cons_of_mem _ hx)) h1
theorem Ok.tearN {r : Rl} {L : Nat} (h : Ok r L) : ∀ m ∈ tearsL r, m.fr.toNat ≤ m.to.toNat ∧ m.to.toNat < L ∧ 0 ≤ m.fr ∧ 0 ≤ m.to ∧ 0 ≤ m.lo ∧ m.lo ≤ m.hi ∧ m.hi ≤ 16 := by
  intro m hm
  obtain ⟨h1, h2⟩ := List.mem_filter.1 hm
  have h3 := h.marks m h1
  rw [h.feet] at h3
  simp only [isTear] at h2
  unfold described at h3
  rw [h2] at h3
  simp at h3
  omega
theorem gone_mem {r : Rl} {L : Nat} (h : Ok r L) (k s : Nat) : s ∈ goneL r L k ↔ Choice (tearsL r) k s := by
  have ht := h.tearN
  rw [gone_eq, List.mem_filter, List.mem_range, taken_mem _ (fun m hm => by have := (ht m hm).1; omega)]
  constructor
  · exact fun h => h.2
  · intro hc
    refine ⟨?_, hc⟩
    have h1 := choice_lt (L := L) (fun m hm => (ht m hm).2.1) hc
    have h2 : 2 ^ L ≤ 64 * 2 ^ (L - 6) := by
      rw [show (64 : Nat) = 2 ^ 6 from rfl, ← Nat.pow_add]; exact two_pow_le (by omega)
    omega
/-- A set of feet that can be there. -/
def IsT (r : Rl) (L t : Nat) : Prop := (∃ g, Choice (tearsL r) 0 g ∧ t = andn (allN L) g) ∧ ∀ m ∈ claimsL r, claimT m t = true
theorem truths_mem {r : Rl} {L : Nat} (h : Ok r L) (t : Nat) : t ∈ truthsL r L ↔ IsT r L t := by
  unfold truthsL IsT
  rw [List.mem_filter, List.mem_map]
  refine and_congr ?_ ?_
  · constructor
    · rintro ⟨g, h1, rfl⟩; exact ⟨g, (gone_mem h 0 g).1 h1, rfl⟩
    · rintro ⟨g, h1, rfl⟩; exact ⟨g, (gone_mem h 0 g).2 h1, rfl⟩
  · unfold untrueN
    simp only [beq_iff_eq, List.length_eq_zero_iff, List.filter_eq_nil_iff]
    simp
theorem andn_inj {L : Nat} (hL : L ≤ 16) {a b : Nat} (ha : a < 2 ^ L) (hb : b < 2 ^ L) (h : andn (allN L) a = andn (allN L) b) : a = b := by
  apply Nat.eq_of_testBit_eq
  intro i
  by_cases hi : i < L
  · have h1 := congrArg (fun x => x.testBit i) h
    simp only [andn_bit _ _ _ (show i < 16 by omega)] at h1
    have h2 : (allN L).testBit i = true := by unfold allN; rw [Nat.testBit_two_pow_sub_one]; simpa using hi
    rw [h2] at h1
    simpa using h1
  · rw [Nat.testBit_lt_two_pow (Nat.lt_of_lt_of_le ha (two_pow_le (by omega))), Nat.testBit_lt_two_pow (Nat.lt_of_lt_of_le hb (two_pow_le (by omega)))]
theorem nodup_filter {l : List Nat} (p : Nat → Bool) (h : l.Nodup) : (l.filter p).Nodup := List.Pairwise.filter p h
theorem truths_nodup {r : Rl} {L : Nat} (h : Ok r L) : (truthsL r L).Nodup := by
  unfold truthsL
  refine nodup_filter _ ?_
  have hn : (goneL r L 0).Nodup := by rw [gone_eq]; exact nodup_filter _ List.nodup_range
  rw [List.nodup_iff_pairwise_ne, List.pairwise_map]
  refine List.Pairwise.imp_of_mem ?_ (List.nodup_iff_pairwise_ne.1 hn)
  intro a b ha hb hne he
  have hl := fun m hm => (h.tearN m hm).2.1
  exact hne (andn_inj (by have := h.nine; omega) (choice_lt hl ((gone_mem h 0 a).1 ha)) (choice_lt hl ((gone_mem h 0 b).1 hb)) he)
/-- Two lists without doubles that have the same elements are as long. -/
theorem len_of_mem {a b : List Nat} (ha : a.Nodup) (hb : b.Nodup) (h : ∀ x, x ∈ a ↔ x ∈ b) : a.length = b.length :=
  ((List.perm_ext_iff_of_nodup ha hb).2 h).length_eq
/-! ### The least number of dropped marks -/
/-- A set can be there if just so many marks are dropped. -/
def Drops (r : Rl) (L n : Nat) : Prop := ∃ k g, Choice (tearsL r) k g ∧ n = k + untrueN (claimsL r) (andn (allN L) g)
theorem choice_le : ∀ {ts : List Mk} {d u : Nat}, Choice ts d u → d ≤ ts.length
  | [], d, u, ⟨h, _⟩ => by simp [h]
  | m :: ts, d, u, h => by
    rcases h with ⟨b, u', h1, h2, rfl⟩ | ⟨d', rfl, h1⟩
    · have := choice_le h2; simp; omega
    · have := choice_le h1; simp; omega
theorem choice_all : ∀ ts : List Mk, Choice ts ts.length 0
  | [] => ⟨rfl, rfl⟩
  | m :: ts => Or.inr ⟨ts.length, rfl, choice_all ts⟩
theorem marks_len (r : Rl) : (tearsL r).length + (claimsL r).length = r.marks.length := by
  unfold tearsL claimsL
  induction r.marks with
  | nil => rfl
  | cons m l ih =>
    by_cases h : isTear m = true
    · simp [List.filter_cons, h]; omega
    · simp [List.filter_cons, h]; omega
theorem minfold (c : Nat → Nat) : ∀ (l : List Nat) (a : Nat), l.foldl (fun l g => min l (c g)) a ≤ a ∧ (∀ g ∈ l, l.foldl (fun l g => min l (c g)) a ≤ c g) ∧ (l.foldl (fun l g => min l (c g)) a = a ∨ ∃ g ∈ l, l.foldl (fun l g => min l (c g)) a = c g) :=
  fun l a => ⟨(fmin_le c l a).1, (fmin_le c l a).2, fmin_mem c l a⟩
theorem fewest_spec {r : Rl} {L : Nat} (h : Ok r L) : Drops r L (fewestL r L) ∧ ∀ n, Drops r L n → fewestL r L ≤ n := by
  have hall : Drops r L (fewestL r L) ∨ fewestL r L = r.marks.length := by
    unfold fewestL
    have : ∀ (l : List Nat) (a : Nat), (l.foldl (fun least k => (goneL r L k).foldl (fun l g => min l (k + untrueN (claimsL r) (andn (allN L) g))) least) a = a ∨
        ∃ k ∈ l, ∃ g ∈ goneL r L k, l.foldl (fun least k => (goneL r L k).foldl (fun l g => min l (k + untrueN (claimsL r) (andn (allN L) g))) least) a = k + untrueN (claimsL r) (andn (allN L) g)) := by
      intro l
      induction l with
      | nil => exact fun a => Or.inl rfl
      | cons k l ih =>
        intro a
        rw [List.foldl_cons]
        rcases ih ((goneL r L k).foldl (fun l g => min l (k + untrueN (claimsL r) (andn (allN L) g))) a) with h1 | ⟨k', hk', g, hg, h1⟩
        · rcases (minfold (fun g => k + untrueN (claimsL r) (andn (allN L) g)) (goneL r L k) a).2.2 with h2 | ⟨g, hg, h2⟩
          · exact Or.inl (h1.trans h2)
          · exact Or.inr ⟨k, by simp, g, hg, h1.trans h2⟩
        · exact Or.inr ⟨k', List.mem_cons_of_mem _ hk', g, hg, h1⟩
    rcases this (List.range ((tearsL r).length + 1)) r.marks.length with h1 | ⟨k, _, g, hg, h1⟩
    · exact Or.inr h1
    · exact Or.inl ⟨k, g, (gone_mem h k g).1 hg, h1⟩
  have hmin : ∀ n, Drops r L n → fewestL r L ≤ n := by
    rintro n ⟨k, g, hc, rfl⟩
    have hk := choice_le hc
    have hg := (gone_mem h k g).2 hc
    unfold fewestL
    have : ∀ (l : List Nat) (a : Nat), (l.foldl (fun least k => (goneL r L k).foldl (fun l g => min l (k + untrueN (claimsL r) (andn (allN L) g))) least) a ≤ a) ∧
        (k ∈ l → l.foldl (fun least k => (goneL r L k).foldl (fun l g => min l (k + untrueN (claimsL r) (andn (allN L) g))) least) a ≤ k + untrueN (claimsL r) (andn (allN L) g)) := by
      intro l
      induction l with
      | nil => exact fun a => ⟨Nat.le_refl a, fun h => by cases h⟩
      | cons k' l ih =>
        intro a
        rw [List.foldl_cons]
        obtain ⟨i1, i2⟩ := ih ((goneL r L k').foldl (fun l g => min l (k' + untrueN (claimsL r) (andn (allN L) g))) a)
        obtain ⟨m1, m2, _⟩ := minfold (fun g => k' + untrueN (claimsL r) (andn (allN L) g)) (goneL r L k') a
        refine ⟨Nat.le_trans i1 m1, fun hk => ?_⟩
        rcases List.mem_cons.1 hk with rfl | hk
        · exact Nat.le_trans i1 (m2 g hg)
        · exact i2 hk
    exact (this _ _).2 (List.mem_range.2 (by omega))
  refine ⟨?_, hmin⟩
  rcases hall with h1 | h1
  · exact h1
  · have h2 := hmin _ ⟨_, _, choice_all (tearsL r), rfl⟩
    have h3 := untrueN_le (claimsL r) (andn (allN L) 0)
    have h4 := marks_len r
    exact ⟨_, _, choice_all (tearsL r), by omega⟩
end Go.Ab.T
end

section
namespace Go.Ab.T
set_option maxRecDepth 8000
set_option linter.unusedSimpArgs false
set_option linter.unusedVariables false
theorem there_ok (s i : Nat) (hi : i < 64) : RV ft 77 [I64 s, I64 i] (.bool (s.testBit i)) := by
  refine RV_of ft77 rfl ?_
  have e1 : IntKind.u64.wrap (i : Int) = (i : Int) := wrap_u64 _ (by omega) (by omega)
  have e2 : Int.fdiv (s : Int) (2 ^ (min (Int.toNat (i : Int)) 64)) = ((s >>> i : Nat) : Int) := by
    rw [Int.toNat_natCast, Nat.min_eq_left (by omega), shr_nat]
  have e3 : (((s >>> i % 2 : Nat) : Int) == 1) = s.testBit i := by
    rw [← testBit_mod, Bool.eq_iff_iff]
    generalize s >>> i = q
    simp; omega
  simp only [c77, r77]
  simp only [go_sem, Nat.reduceEqDiff, Nat.reduceAdd, Nat.reduceLT, Nat.reduceLeDiff, reduceIte, and_self, decide_true, decide_false, beq_self_eq_true, e1, decide_eq_false (show ¬ (i : Int) < 0 by omega), e2, and1, e3]
def feetN (s a b : Nat) : Nat := ((List.range' a (b + 1 - a)).filter s.testBit).length
theorem feetN_step (s a b : Nat) (h : a ≤ b) : feetN s a b = (if s.testBit a = true then 1 else 0) + feetN s (a + 1) b := by
  unfold feetN
  rw [show b + 1 - a = (b + 1 - (a + 1)) + 1 by omega, List.range'_succ, List.filter_cons]
  split <;> simp <;> omega
theorem feetN_none (s a b : Nat) (h : b < a) : feetN s a b = 0 := by
  unfold feetN
  rw [show b + 1 - a = 0 by omega]; rfl
theorem Feet_ok (s a b : Nat) (hb : b < 60) (ha : a ≤ b + 1) : RV ft 42 [I64 s, I64 a, I64 b] (I64 (feetN s a b : Nat)) := by
  refine RV_of ft42 rfl ?_
  simp only [c42, r42]
  simp only [go_sem, Nat.reduceEqDiff, Nat.reduceAdd, Nat.reduceLT, Nat.reduceLeDiff, reduceIte, and_self, decide_true, decide_false, beq_self_eq_true]
  refine WL_inv (α := Nat × Nat) (fun p e m => e 0 = I64 s ∧ e 2 = I64 b ∧ e 7 = I64 p.2 ∧ e 8 = I64 p.1 ∧ p.1 ≤ b + 1 ∧ p.2 + feetN s p.1 b = feetN s a b ∧ p.2 ≤ p.1) (fun p => b + 1 - p.1) (a, 0) ?_ ?_
  · simp only [go_sem, Nat.reduceEqDiff, Nat.reduceAdd, Nat.reduceLT, Nat.reduceLeDiff, reduceIte, and_self, decide_true, decide_false, beq_self_eq_true]
    exact ⟨trivial, trivial, rfl, trivial, ha, by simp, by omega⟩
  · rintro ⟨i, n⟩ e m ⟨h0, h2, h7, h8, hi, hn, hni⟩
    dsimp only at *
    by_cases hle : i ≤ b
    · have hw : IntKind.i64.wrap ((i : Int) + 1) = ((i + 1 : Nat) : Int) := by rw [wrap_i64 _ (by omega) (by omega)]; rfl
      rw [feetN_step _ _ _ hle] at hn
      simp only [go_sem, Nat.reduceEqDiff, Nat.reduceAdd, Nat.reduceLT, Nat.reduceLeDiff, reduceIte, and_self, decide_true, decide_false, beq_self_eq_true, h0, h2, h7, h8, decide_eq_true (show (i : Int) ≤ (b : Int) by omega), WB77, WVH_eq (there_ok s i (by omega)), true_and]
      refine Cs_of (fun hc => ?_) fun hc => ?_
      · have hw2 : IntKind.i64.wrap ((n : Int) + 1) = ((n + 1 : Nat) : Int) := by rw [wrap_i64 _ (by omega) (by omega)]; rfl
        simp only [go_sem, Nat.reduceEqDiff, Nat.reduceAdd, Nat.reduceLT, Nat.reduceLeDiff, reduceIte, and_self, decide_true, decide_false, beq_self_eq_true, h7, h8, hw, hw2]
        refine Nx_of (i + 1, n + 1) (by simp; omega) ?_
        simp only [go_sem, Nat.reduceEqDiff, Nat.reduceAdd, Nat.reduceLT, Nat.reduceLeDiff, reduceIte, and_self, decide_true, decide_false, beq_self_eq_true, h0, h2]
        rw [if_pos hc] at hn
        exact ⟨trivial, trivial, trivial, trivial, by omega, by omega, by omega⟩
      · simp only [go_sem, Nat.reduceEqDiff, Nat.reduceAdd, Nat.reduceLT, Nat.reduceLeDiff, reduceIte, and_self, decide_true, decide_false, beq_self_eq_true, h8, hw]
        refine Nx_of (i + 1, n) (by simp; omega) ?_
        simp only [go_sem, Nat.reduceEqDiff, Nat.reduceAdd, Nat.reduceLT, Nat.reduceLeDiff, reduceIte, and_self, decide_true, decide_false, beq_self_eq_true, h0, h2, h7]
        rw [hc] at hn
        exact ⟨trivial, trivial, trivial, trivial, by omega, by simpa using hn, by omega⟩
    · simp only [go_sem, Nat.reduceEqDiff, Nat.reduceAdd, Nat.reduceLT, Nat.reduceLeDiff, reduceIte, and_self, decide_true, decide_false, beq_self_eq_true, h2, h7, h8, decide_eq_false (show ¬ (i : Int) ≤ (b : Int) by omega)]
      rw [feetN_none _ _ _ (by omega)] at hn
      rw [← hn]; rfl
/-- How many gaps, and the last foot, of so many feet of a set. -/
def gst (s : Nat) : Nat → Nat × Int
  | 0 => (0, -1)
  | i + 1 => if s.testBit i then ((if 0 ≤ (gst s i).2 ∧ (gst s i).2 < (i : Int) - 1 then (gst s i).1 + 1 else (gst s i).1), (i : Int)) else gst s i
theorem gst_le (s : Nat) : ∀ i, (gst s i).1 ≤ i ∧ -1 ≤ (gst s i).2 ∧ (gst s i).2 < i
  | 0 => by simp [gst]
  | i + 1 => by
    have := gst_le s i
    unfold gst
    split
    · dsimp only; split <;> omega
    · omega
theorem Gaps_ok (s n : Nat) (hn : n < 60) : RV ft 44 [I64 s, I64 n] (I64 ((gst s n).1 : Nat)) := by
  refine RV_of ft44 rfl ?_
  simp only [c44, r44]
  simp only [go_sem, Nat.reduceEqDiff, Nat.reduceAdd, Nat.reduceLT, Nat.reduceLeDiff, reduceIte, and_self, decide_true, decide_false, beq_self_eq_true]
  refine WL_inv (α := Nat) (fun i e m => e 0 = I64 s ∧ e 1 = I64 n ∧ e 5 = I64 ((gst s i).1 : Nat) ∧ e 6 = I64 (gst s i).2 ∧ e 7 = I64 i ∧ i ≤ n) (fun i => n - i) 0 ?_ ?_
  · simp only [go_sem, Nat.reduceEqDiff, Nat.reduceAdd, Nat.reduceLT, Nat.reduceLeDiff, reduceIte, and_self, decide_true, decide_false, beq_self_eq_true, gst]
    exact ⟨trivial, trivial, rfl, trivial, rfl, by omega⟩
  · rintro i e m ⟨h0, h1, h5, h6, h7, hi⟩
    by_cases hlt : i < n
    · have hw : IntKind.i64.wrap ((i : Int) + 1) = ((i + 1 : Nat) : Int) := by rw [wrap_i64 _ (by omega) (by omega)]; rfl
      obtain ⟨q1, q2, q3⟩ := gst_le s i
      have hstep : gst s (i + 1) = if s.testBit i then ((if 0 ≤ (gst s i).2 ∧ (gst s i).2 < (i : Int) - 1 then (gst s i).1 + 1 else (gst s i).1), (i : Int)) else gst s i := rfl
      simp only [go_sem, Nat.reduceEqDiff, Nat.reduceAdd, Nat.reduceLT, Nat.reduceLeDiff, reduceIte, and_self, decide_true, decide_false, beq_self_eq_true, h0, h1, h5, h6, h7, dec_lt hlt, WB77, WVH_eq (there_ok s i (by omega)), true_and]
      cases hb : s.testBit i
      · simp only [go_sem, Nat.reduceEqDiff, Nat.reduceAdd, Nat.reduceLT, Nat.reduceLeDiff, reduceIte, and_self, decide_true, decide_false, beq_self_eq_true, h7, hw]
        refine Nx_of (i + 1) (by omega) ?_
        simp only [go_sem, Nat.reduceEqDiff, Nat.reduceAdd, Nat.reduceLT, Nat.reduceLeDiff, reduceIte, and_self, decide_true, decide_false, beq_self_eq_true, h0, h1, h5, h6]
        rw [hb] at hstep
        simp only [Bool.false_eq_true, if_false] at hstep
        rw [hstep]
        refine ⟨?_, ?_, ?_, ?_, ?_, ?_⟩ <;> first | trivial | rfl | omega
      · have hw1 : IntKind.i64.wrap ((i : Int) - 1) = (i : Int) - 1 := wrap_i64 _ (by omega) (by omega)
        have hw2 : IntKind.i64.wrap (((gst s i).1 : Int) + 1) = (((gst s i).1 + 1 : Nat) : Int) := by rw [wrap_i64 _ (by omega) (by omega)]; rfl
        rw [hb] at hstep
        simp only [if_true] at hstep
        by_cases c1 : 0 ≤ (gst s i).2
        · by_cases c2 : (gst s i).2 < (i : Int) - 1
          · simp only [go_sem, Nat.reduceEqDiff, Nat.reduceAdd, Nat.reduceLT, Nat.reduceLeDiff, reduceIte, and_self, decide_true, decide_false, beq_self_eq_true, h0, h1, h5, h6, h7, decide_eq_true c1, decide_eq_true c2, hw1, hw2, hw]
            refine Nx_of (i + 1) (by omega) ?_
            simp only [go_sem, Nat.reduceEqDiff, Nat.reduceAdd, Nat.reduceLT, Nat.reduceLeDiff, reduceIte, and_self, decide_true, decide_false, beq_self_eq_true, h0, h1]
            rw [hstep, if_pos ⟨c1, c2⟩]
            refine ⟨?_, ?_, ?_, ?_, ?_, ?_⟩ <;> first | trivial | rfl | omega
          · simp only [go_sem, Nat.reduceEqDiff, Nat.reduceAdd, Nat.reduceLT, Nat.reduceLeDiff, reduceIte, and_self, decide_true, decide_false, beq_self_eq_true, h0, h1, h5, h6, h7, decide_eq_true c1, decide_eq_false c2, hw1, hw2, hw]
            refine Nx_of (i + 1) (by omega) ?_
            simp only [go_sem, Nat.reduceEqDiff, Nat.reduceAdd, Nat.reduceLT, Nat.reduceLeDiff, reduceIte, and_self, decide_true, decide_false, beq_self_eq_true, h0, h1, h5]
            rw [hstep, if_neg (fun h => c2 h.2)]
            refine ⟨?_, ?_, ?_, ?_, ?_, ?_⟩ <;> first | trivial | rfl | omega
        · simp only [go_sem, Nat.reduceEqDiff, Nat.reduceAdd, Nat.reduceLT, Nat.reduceLeDiff, reduceIte, and_self, decide_true, decide_false, beq_self_eq_true, h0, h1, h5, h6, h7, decide_eq_false c1, hw1, hw2, hw]
          refine Nx_of (i + 1) (by omega) ?_
          simp only [go_sem, Nat.reduceEqDiff, Nat.reduceAdd, Nat.reduceLT, Nat.reduceLeDiff, reduceIte, and_self, decide_true, decide_false, beq_self_eq_true, h0, h1, h5]
          rw [hstep, if_neg (fun h => c1 h.1)]
          refine ⟨?_, ?_, ?_, ?_, ?_, ?_⟩ <;> first | trivial | rfl | omega
    · obtain rfl : i = n := by omega
      simp only [go_sem, Nat.reduceEqDiff, Nat.reduceAdd, Nat.reduceLT, Nat.reduceLeDiff, reduceIte, and_self, decide_true, decide_false, beq_self_eq_true, h1, h5, h7, dec_ge (Nat.le_refl i)]
/-- The longest row, and the last one, of so many feet of a set. -/
def rst (s : Nat) : Nat → Nat × Nat
  | 0 => (0, 0)
  | i + 1 => let now := if s.testBit i then (rst s i).2 + 1 else 0; (max (rst s i).1 now, now)
theorem rst_le (s : Nat) : ∀ i, (rst s i).1 ≤ i ∧ (rst s i).2 ≤ i
  | 0 => by simp [rst]
  | i + 1 => by
    have := rst_le s i
    simp only [rst]
    split <;> omega
theorem Row_ok (s n : Nat) (hn : n < 60) : RV ft 45 [I64 s, I64 n] (I64 ((rst s n).1 : Nat)) := by
  refine RV_of ft45 rfl ?_
  simp only [c45, r45]
  simp only [go_sem, Nat.reduceEqDiff, Nat.reduceAdd, Nat.reduceLT, Nat.reduceLeDiff, reduceIte, and_self, decide_true, decide_false, beq_self_eq_true]
  refine WL_inv (α := Nat) (fun i e m => e 0 = I64 s ∧ e 1 = I64 n ∧ e 5 = I64 ((rst s i).1 : Nat) ∧ e 6 = I64 ((rst s i).2 : Nat) ∧ e 7 = I64 i ∧ i ≤ n) (fun i => n - i) 0 ?_ ?_
  · simp only [go_sem, Nat.reduceEqDiff, Nat.reduceAdd, Nat.reduceLT, Nat.reduceLeDiff, reduceIte, and_self, decide_true, decide_false, beq_self_eq_true, rst]
    exact ⟨trivial, trivial, rfl, rfl, rfl, by omega⟩
  · rintro i e m ⟨h0, h1, h5, h6, h7, hi⟩
    by_cases hlt : i < n
    · have hw : IntKind.i64.wrap ((i : Int) + 1) = ((i + 1 : Nat) : Int) := by rw [wrap_i64 _ (by omega) (by omega)]; rfl
      obtain ⟨q1, q2⟩ := rst_le s i
      have hw2 : IntKind.i64.wrap (((rst s i).2 : Int) + 1) = (((rst s i).2 + 1 : Nat) : Int) := by rw [wrap_i64 _ (by omega) (by omega)]; rfl
      simp only [go_sem, Nat.reduceEqDiff, Nat.reduceAdd, Nat.reduceLT, Nat.reduceLeDiff, reduceIte, and_self, decide_true, decide_false, beq_self_eq_true, h0, h1, h5, h6, h7, dec_lt hlt, hw2, WB77, WVH_eq (there_ok s i (by omega)), true_and]
      cases hb : s.testBit i
      · have hm : max (((rst s i).1 : Nat) : Int) 0 = ((max (rst s i).1 0 : Nat) : Int) := by omega
        simp only [go_sem, Nat.reduceEqDiff, Nat.reduceAdd, Nat.reduceLT, Nat.reduceLeDiff, reduceIte, and_self, decide_true, decide_false, beq_self_eq_true, h5, h7, hw, hm]
        refine Nx_of (i + 1) (by omega) ?_
        simp only [go_sem, Nat.reduceEqDiff, Nat.reduceAdd, Nat.reduceLT, Nat.reduceLeDiff, reduceIte, and_self, decide_true, decide_false, beq_self_eq_true, h0, h1, rst, hb, Bool.false_eq_true]
        exact ⟨trivial, trivial, trivial, rfl, trivial, by omega⟩
      · have hm : max (((rst s i).1 : Nat) : Int) (((rst s i).2 + 1 : Nat) : Int) = ((max (rst s i).1 ((rst s i).2 + 1) : Nat) : Int) := by omega
        simp only [go_sem, Nat.reduceEqDiff, Nat.reduceAdd, Nat.reduceLT, Nat.reduceLeDiff, reduceIte, and_self, decide_true, decide_false, beq_self_eq_true, h5, h7, hw, hm]
        refine Nx_of (i + 1) (by omega) ?_
        simp only [go_sem, Nat.reduceEqDiff, Nat.reduceAdd, Nat.reduceLT, Nat.reduceLeDiff, reduceIte, and_self, decide_true, decide_false, beq_self_eq_true, h0, h1, rst, hb]
        exact ⟨trivial, trivial, trivial, trivial, trivial, by omega⟩
    · obtain rfl : i = n := by omega
      simp only [go_sem, Nat.reduceEqDiff, Nat.reduceAdd, Nat.reduceLT, Nat.reduceLeDiff, reduceIte, and_self, decide_true, decide_false, beq_self_eq_true, h1, h5, h7, dec_ge (Nat.le_refl i)]
end Go.Ab.T
end

section
namespace Go.Ab.T
set_option maxRecDepth 8000
set_option linter.unusedSimpArgs false
set_option linter.unusedVariables false
/-! ### Counting bits in two ways -/
theorem bit0 (x : Nat) : x % 2 = if x.testBit 0 then 1 else 0 := by
  rw [Nat.testBit_zero]
  by_cases h : x % 2 = 1
  · simp [h]
  · simp [h]; omega
theorem popc_range : ∀ n x, popc n x = ((List.range n).filter x.testBit).length
  | 0, x => rfl
  | n + 1, x => by
    have h : (List.range n).filter (x.testBit ∘ Nat.succ) = (List.range n).filter (x / 2).testBit := List.filter_congr fun i _ => by simp [Function.comp, Nat.testBit_succ]
    rw [popc, popc_range n (x / 2), List.range_succ_eq_map, List.filter_cons, List.filter_map, h, bit0 x]
    split <;> simp <;> omega
theorem feet_popc (s a b : Nat) (ha : a ≤ b + 1) (hb : b < 16) : feetN s a b = popc 16 (s &&& btw a b) := by
  have hbt : ∀ i, (btw a b).testBit i = (decide (a ≤ i) && decide (i < b + 1)) := by
    intro i
    have : btw a b = blkN a (b + 1 - a) := by
      unfold btw blkN
      rw [Nat.sub_mul, Nat.one_mul, ← Nat.pow_add, show b + 1 - a + a = b + 1 by omega]
    rw [this, blkN_bit, show a + (b + 1 - a) = b + 1 by omega]
  rw [popc_range]
  unfold feetN
  have hs : List.range 16 = List.range a ++ (List.range' a (b + 1 - a) ++ List.range' (b + 1) (15 - b)) := by
    rw [List.range_eq_range', List.range_eq_range']
    have e1 := List.range'_append_1 (s := a) (m := b + 1 - a) (n := 15 - b)
    rw [show a + (b + 1 - a) = b + 1 by omega] at e1
    have e2 := List.range'_append_1 (s := 0) (m := a) (n := b + 1 - a + (15 - b))
    rw [e1, ← show a + (b + 1 - a + (15 - b)) = 16 by omega, ← e2, Nat.zero_add]
  rw [hs, List.filter_append, List.filter_append]
  have h1 : (List.range a).filter (s &&& btw a b).testBit = [] := by
    rw [List.filter_eq_nil_iff]; intro i hi
    have := List.mem_range.1 hi
    rw [Nat.testBit_and, hbt]; simp; intro _ h; omega
  have h2 : (List.range' (b + 1) (15 - b)).filter (s &&& btw a b).testBit = [] := by
    rw [List.filter_eq_nil_iff]; intro i hi
    have := (List.mem_range'_1.1 hi).1
    rw [Nat.testBit_and, hbt]; simp; intro _ _; omega
  rw [h1, h2, List.nil_append, List.append_nil]
  congr 1
  refine List.filter_congr fun i hi => ?_
  have := List.mem_range'_1.1 hi
  rw [Nat.testBit_and, hbt, decide_eq_true (show a ≤ i by omega), decide_eq_true (show i < b + 1 by omega)]; simp
theorem feet_all (s L : Nat) (h1 : 1 ≤ L) (h : L ≤ 16) (hs : s < 2 ^ L) : feetN s 0 (L - 1) = popc 16 s := by
  rw [feet_popc _ _ _ (by omega) (by omega)]
  congr 1
  unfold btw
  rw [show L - 1 + 1 = L by omega, Nat.pow_zero, Nat.and_two_pow_sub_one_of_lt_two_pow hs]
/-! ### Rows -/
/-- Rows that begin among so many bits (p: the bit before is 1). -/
def rc : Nat → Nat → Bool → Nat
  | 0, _, _ => 0
  | k + 1, f, p => (if f % 2 = 1 ∧ p = false then 1 else 0) + rc k (f / 2) (decide (f % 2 = 1))
theorem rc_zero : ∀ k p, rc k 0 p = 0
  | 0, _ => rfl
  | k + 1, p => by simp [rc, rc_zero k]
theorem rc_more : ∀ k j f p, f < 2 ^ k → rc (k + j) f p = rc k f p
  | 0, j, f, p, h => by
    have : f = 0 := by simpa using h
    subst this; rw [rc_zero]; rfl
  | k + 1, j, f, p, h => by
    rw [show k + 1 + j = (k + j) + 1 by omega]
    simp only [rc]
    rw [rc_more k j (f / 2) _ (by rw [Nat.pow_succ] at h; omega)]
theorem rc_zeros : ∀ j k f, f % 2 ^ j = 0 → rc (j + k) f false = rc k (f / 2 ^ j) false
  | 0, k, f, h => by simp
  | j + 1, k, f, h => by
    have h1 : f % 2 = 0 := by rw [Nat.pow_succ, Nat.mul_comm, Nat.mod_mul] at h; omega
    have h2 : f / 2 % 2 ^ j = 0 := by rw [Nat.pow_succ, Nat.mul_comm, Nat.mod_mul, h1] at h; omega
    rw [show j + 1 + k = (j + k) + 1 by omega]
    simp only [rc, h1]
    rw [show decide ((0 : Nat) = 1) = false from rfl, rc_zeros j k _ h2, Nat.div_div_eq_div_mul, Nat.pow_succ, Nat.mul_comm 2]
    simp
theorem rc_ones : ∀ j k f, f % 2 ^ j = 2 ^ j - 1 → rc (j + k) f true = rc k (f / 2 ^ j) true
  | 0, k, f, h => by simp
  | j + 1, k, f, h => by
    have hp := Nat.two_pow_pos j
    rw [Nat.pow_succ, Nat.mul_comm, Nat.mod_mul] at h
    have h1 : f % 2 = 1 := by omega
    have h2 : f / 2 % 2 ^ j = 2 ^ j - 1 := by omega
    rw [show j + 1 + k = (j + k) + 1 by omega]
    have hd : decide (f % 2 = 1) = true := decide_eq_true h1
    simp only [rc]
    rw [hd, rc_ones j k _ h2, Nat.div_div_eq_div_mul, Nat.pow_succ, Nat.mul_comm 2]
    simp
/-- The ones at a set's beginning. -/
theorem ones_spec (g : Nat) (h : g < 65536) : g % 2 ^ tz 16 (65535 - g) = 2 ^ tz 16 (65535 - g) - 1 ∧ g / 2 ^ tz 16 (65535 - g) % 2 = 0 := by
  by_cases hx : 65535 - g = 0
  · have : g = 65535 := by omega
    subst this; decide
  · obtain ⟨h1, q, h2⟩ := tz_spec 16 (65535 - g) hx (show 65535 - g < 2 ^ 16 from Nat.lt_of_le_of_lt (Nat.sub_le _ _) (by decide))
    generalize hc : tz 16 (65535 - g) = c at *
    have hp := Nat.two_pow_pos c
    have e : 2 ^ c * 2 ^ (16 - c) = 65536 := by rw [← Nat.pow_add, show c + (16 - c) = 16 by omega]
    have e2 : 2 ^ (16 - c) = 2 * 2 ^ (15 - c) := by rw [show 16 - c = (15 - c) + 1 by omega, Nat.pow_succ, Nat.mul_comm]
    have hq : 2 * q + 2 ≤ 2 * 2 ^ (15 - c) := by
      have h3 : 2 ^ c * (2 * q + 1) < 2 ^ c * 2 ^ (16 - c) := by omega
      have h4 := Nat.lt_of_mul_lt_mul_left h3
      omega
    have hg : g = 2 ^ c * (2 * (2 ^ (15 - c) - q - 1)) + (2 ^ c - 1) := by
      have h5 : 2 ^ c * (2 * (2 ^ (15 - c) - q - 1)) + 2 ^ c * (2 * q + 2) = 65536 := by
        rw [← Nat.mul_add, ← e, e2]; congr 1; omega
      have h6 : 2 ^ c * (2 * q + 2) = 2 ^ c * (2 * q + 1) + 2 ^ c := Nat.mul_succ (2 ^ c) (2 * q + 1)
      omega
    constructor
    · rw [hg, Nat.mul_add_mod]; exact Nat.mod_eq_of_lt (by omega)
    · rw [hg, Nat.mul_add_div hp, Nat.div_eq_of_lt (show 2 ^ c - 1 < 2 ^ c by omega)]; omega
/-- A set that begins with zeros and then ones. -/
theorem row_step (f m : Nat) (h0 : f ≠ 0) (hm : f < 2 ^ (m + 1)) (h : f < 65536) : ∃ z c, z = tz 16 f ∧ c = tz 16 (65535 - f >>> z) ∧ f % 2 ^ z = 0 ∧ z + c ≤ m + 1 ∧ 1 ≤ c ∧ f >>> z % 2 ^ c = 2 ^ c - 1 ∧ f >>> z >>> c % 2 = 0 ∧ f >>> z % 2 = 1 ∧ f >>> z >>> c < 2 ^ m := by
  obtain ⟨h1, q, h2⟩ := tz_spec 16 f h0 (by simpa using h)
  have hless := rows_less m f h0 hm h
  refine ⟨_, _, rfl, rfl, ?_⟩
  have hz : f % 2 ^ tz 16 f = 0 := by rw [show f % 2 ^ tz 16 f = (2 ^ tz 16 f * (2 * q + 1)) % 2 ^ tz 16 f from by rw [← h2]]; exact Nat.mul_mod_right _ _
  have hg : f >>> tz 16 f < 65536 := shr_lt _ _ _ h
  obtain ⟨o1, o2⟩ := ones_spec _ hg
  have hodd : f >>> tz 16 f % 2 = 1 := by
    rw [Nat.shiftRight_eq_div_pow]
    have : f / 2 ^ tz 16 f = 2 * q + 1 := by
      have e := congrArg (fun y => y / 2 ^ tz 16 f) h2
      exact e.trans (Nat.mul_div_cancel_left _ (Nat.two_pow_pos _))
    omega
  generalize hzz : tz 16 f = z at *
  generalize hcc : tz 16 (65535 - f >>> z) = c at *
  have hc1 : 1 ≤ c := by
    rcases Nat.eq_zero_or_pos c with hc | hc
    · subst hc; rw [Nat.pow_zero, Nat.div_one] at o2; omega
    · exact hc
  rw [Nat.shiftRight_eq_div_pow (f >>> z) c]
  refine ⟨hz, ?_, hc1, o1, o2, hodd, by rw [← Nat.shiftRight_eq_div_pow]; exact hless⟩
  have h3 : 2 ^ c - 1 ≤ f >>> z := by rw [← o1]; exact Nat.mod_le _ _
  have h4 : 2 ^ z * (f >>> z) ≤ f := by rw [Nat.shiftRight_eq_div_pow]; exact Nat.mul_div_le _ _
  have h5 : 2 ^ z * 2 ^ (c - 1) ≤ f := by
    refine Nat.le_trans (Nat.mul_le_mul_left _ ?_) h4
    have : 2 ^ c = 2 * 2 ^ (c - 1) := by rw [show c = (c - 1) + 1 by omega, Nat.pow_succ, Nat.mul_comm]; rfl
    have := Nat.two_pow_pos (c - 1)
    omega
  rw [← Nat.pow_add] at h5
  have h6 : z + (c - 1) < m + 1 := by
    refine Classical.byContradiction fun hn => ?_
    have := two_pow_le (a := m + 1) (b := z + (c - 1)) (by omega)
    omega
  omega
theorem rowsL_rc : ∀ m f, m ≤ 16 → f < 2 ^ m → f < 65536 → (rowsL m f).length = rc m f false
  | 0, f, _, h, _ => by
    have : f = 0 := by simpa using h
    subst this; rfl
  | m + 1, f, hm, h, h' => by
    unfold rowsL
    by_cases h0 : f = 0
    · subst h0; rw [if_pos rfl, rc_zero]; rfl
    · rw [if_neg h0]
      obtain ⟨z, c, hz, hc, p1, p2, p3, p4, p5, p6, p7⟩ := row_step f m h0 h h'
      rw [← hz, ← hc, List.length_cons, rowsL_rc m _ (by omega) p7 (Nat.lt_of_lt_of_le p7 (two_pow_le (b := 16) (by omega)))]
      obtain ⟨k, hk⟩ : ∃ k, m + 1 = z + (c + k) := ⟨m + 1 - z - c, by omega⟩
      rw [hk] at h
      rw [hk, rc_zeros z _ f p1]
      clear hz hc
      obtain ⟨c', rfl⟩ : ∃ c', c = c' + 1 := ⟨c - 1, by omega⟩
      have hd : decide (f >>> z % 2 = 1) = true := decide_eq_true p6
      rw [← Nat.shiftRight_eq_div_pow, show c' + 1 + k = (c' + k) + 1 by omega]
      simp only [rc]
      rw [hd, if_pos ⟨p6, trivial⟩]
      have hp := Nat.two_pow_pos c'
      have q1 : f >>> z / 2 % 2 ^ c' = 2 ^ c' - 1 := by
        rw [Nat.pow_succ, Nat.mul_comm, Nat.mod_mul] at p4; omega
      rw [rc_ones c' k _ q1, Nat.div_div_eq_div_mul, Nat.mul_comm 2, ← Nat.pow_succ, ← Nat.shiftRight_eq_div_pow]
      have q2 : rc k (f >>> z >>> (c' + 1)) true = rc k (f >>> z >>> (c' + 1)) false := by
        cases k with
        | zero => rfl
        | succ k => simp [rc, p5]
      have hlt : f >>> z >>> (c' + 1) < 2 ^ k := by
        rw [Nat.shiftRight_eq_div_pow, Nat.shiftRight_eq_div_pow, Nat.div_div_eq_div_mul, ← Nat.pow_add, Nat.div_lt_iff_lt_mul (Nat.two_pow_pos _), ← Nat.pow_add]
        rw [show k + (z + (c' + 1)) = z + (c' + 1 + k) by omega]; exact h
      rw [q2]
      obtain ⟨j, hj⟩ : ∃ j, m = k + j := ⟨m - k, by omega⟩
      rw [hj, rc_more k j _ _ hlt]
      simp [Nat.add_comm]
theorem gst_rc (s : Nat) : ∀ k i, (gst s (i + k)).1 = if (gst s i).2 = -1 then (gst s i).1 + (rc k (s / 2 ^ i) false - 1) else if (gst s i).2 = (i : Int) - 1 then (gst s i).1 + rc k (s / 2 ^ i) true else (gst s i).1 + rc k (s / 2 ^ i) false
  | 0, i => by simp [rc]
  | k + 1, i => by
    obtain ⟨b1, b2, b3⟩ := gst_le s i
    rw [show i + (k + 1) = (i + 1) + k by omega, gst_rc s k (i + 1)]
    have hd : s / 2 ^ (i + 1) = s / 2 ^ i / 2 := by rw [Nat.div_div_eq_div_mul, Nat.pow_succ]
    have hbit : s.testBit i = decide (s / 2 ^ i % 2 = 1) := Nat.testBit_eq_decide_div_mod_eq
    have hstep : gst s (i + 1) = if s.testBit i then ((if 0 ≤ (gst s i).2 ∧ (gst s i).2 < (i : Int) - 1 then (gst s i).1 + 1 else (gst s i).1), (i : Int)) else gst s i := rfl
    rw [hd]
    generalize s / 2 ^ i = y at *
    simp only [rc]
    by_cases hy : y % 2 = 1
    · rw [hbit, decide_eq_true hy, if_pos rfl] at hstep
      rw [hstep, decide_eq_true hy]
      simp only [hy, true_and]
      have c1 : ¬ ((i : Int) = -1) := by omega
      have c2 : (i : Int) = ((i + 1 : Nat) : Int) - 1 := by omega
      rw [if_neg c1, if_pos c2]
      by_cases hl : (gst s i).2 = -1
      · rw [if_pos hl, if_neg (by omega)]; simp
      · rw [if_neg hl]
        by_cases hl2 : (gst s i).2 = (i : Int) - 1
        · rw [if_pos hl2, if_neg (by omega)]; simp
        · rw [if_neg hl2, if_pos (by omega)]; simp; omega
    · rw [hbit, decide_eq_false hy, if_neg (by simp)] at hstep
      rw [hstep, decide_eq_false hy]
      simp only [hy, false_and, if_false, Nat.zero_add]
      by_cases hl : (gst s i).2 = -1
      · rw [if_pos hl, if_pos hl]
      · rw [if_neg hl, if_neg hl, if_neg (by omega)]
        split <;> rfl
theorem gaps_eq (s L : Nat) (h : s < 2 ^ L) (hL : L ≤ 16) : (gst s L).1 = splicesL s := by
  have h1 := gst_rc s L 0
  rw [Nat.zero_add, if_pos (show (gst s 0).2 = -1 from rfl)] at h1
  have h2 : s < 65536 := Nat.lt_of_lt_of_le h (two_pow_le (b := 16) hL)
  have h3 := rowsL_rc 16 s (Nat.le_refl _) (by simpa using h2) h2
  have h4 := rc_more L (16 - L) s false h
  rw [show L + (16 - L) = 16 by omega] at h4
  rw [h1]
  unfold splicesL
  rw [h3, h4]
  simp [gst]
end Go.Ab.T
end

section
namespace Go.Ab.T
set_option maxRecDepth 8000
set_option linter.unusedSimpArgs false
set_option linter.unusedVariables false
/-- The longest row of so many bits, behind a row that runs. -/
def lr : Nat → Nat → Nat → Nat → Nat
  | 0, _, _, most => most
  | k + 1, f, now, most => if f % 2 = 1 then lr k (f / 2) (now + 1) (max most (now + 1)) else lr k (f / 2) 0 most
theorem lr_zero : ∀ k now most, lr k 0 now most = most
  | 0, _, _ => rfl
  | k + 1, now, most => by simp [lr, lr_zero k]
theorem lr_more : ∀ k j f now most, f < 2 ^ k → lr (k + j) f now most = lr k f now most
  | 0, j, f, now, most, h => by
    have : f = 0 := by simpa using h
    subst this; rw [lr_zero]; rfl
  | k + 1, j, f, now, most, h => by
    rw [show k + 1 + j = (k + j) + 1 by omega]
    simp only [lr]
    rw [lr_more k j (f / 2) _ _ (by rw [Nat.pow_succ] at h; omega), lr_more k j (f / 2) _ _ (by rw [Nat.pow_succ] at h; omega)]
theorem lr_zeros : ∀ j k f most, f % 2 ^ j = 0 → lr (j + k) f 0 most = lr k (f / 2 ^ j) 0 most
  | 0, k, f, most, h => by simp
  | j + 1, k, f, most, h => by
    rw [Nat.pow_succ, Nat.mul_comm, Nat.mod_mul] at h
    have h1 : f % 2 = 0 := by omega
    have h2 : f / 2 % 2 ^ j = 0 := by omega
    rw [show j + 1 + k = (j + k) + 1 by omega]
    simp only [lr]
    rw [if_neg (by omega), lr_zeros j k _ most h2, Nat.div_div_eq_div_mul, Nat.pow_succ, Nat.mul_comm 2]
theorem lr_ones : ∀ j k f now most, f % 2 ^ j = 2 ^ j - 1 → now ≤ most → lr (j + k) f now most = lr k (f / 2 ^ j) (now + j) (max most (now + j))
  | 0, k, f, now, most, h, hle => by simp [Nat.max_eq_left hle]
  | j + 1, k, f, now, most, h, hle => by
    have hp := Nat.two_pow_pos j
    rw [Nat.pow_succ, Nat.mul_comm, Nat.mod_mul] at h
    have h1 : f % 2 = 1 := by omega
    have h2 : f / 2 % 2 ^ j = 2 ^ j - 1 := by omega
    rw [show j + 1 + k = (j + k) + 1 by omega]
    simp only [lr]
    rw [if_pos h1, lr_ones j k _ _ _ h2 (Nat.le_max_right _ _), Nat.div_div_eq_div_mul, Nat.pow_succ, Nat.mul_comm 2]
    congr 1
    · omega
    · omega
theorem lr_end (k f now most : Nat) (h : f % 2 = 0) : lr k f now most = lr k f 0 most := by
  cases k with
  | zero => rfl
  | succ k => simp [lr, h]
theorem rowsL_lr : ∀ m f most, m ≤ 16 → f < 2 ^ m → f < 65536 → (rowsL m f).foldl max most = lr m f 0 most
  | 0, f, most, _, h, _ => by
    have : f = 0 := by simpa using h
    subst this; rfl
  | m + 1, f, most, hm, h, h' => by
    unfold rowsL
    by_cases h0 : f = 0
    · subst h0; rw [if_pos rfl, lr_zero]; rfl
    · rw [if_neg h0]
      obtain ⟨z, c, hz, hc, p1, p2, p3, p4, p5, p6, p7⟩ := row_step f m h0 h h'
      rw [← hz, ← hc, List.foldl_cons, rowsL_lr m _ _ (by omega) p7 (Nat.lt_of_lt_of_le p7 (two_pow_le (b := 16) (by omega)))]
      obtain ⟨k, hk⟩ : ∃ k, m + 1 = z + (c + k) := ⟨m + 1 - z - c, by omega⟩
      rw [hk] at h
      rw [hk, lr_zeros z _ f _ p1, ← Nat.shiftRight_eq_div_pow, lr_ones c k _ 0 most p4 (Nat.zero_le _), Nat.zero_add, ← Nat.shiftRight_eq_div_pow]
      have hlt : f >>> z >>> c < 2 ^ k := by
        rw [Nat.shiftRight_eq_div_pow, Nat.shiftRight_eq_div_pow, Nat.div_div_eq_div_mul, ← Nat.pow_add, Nat.div_lt_iff_lt_mul (Nat.two_pow_pos _), ← Nat.pow_add]
        rw [show k + (z + c) = z + (c + k) by omega]; exact h
      obtain ⟨j, hj⟩ : ∃ j, m = k + j := ⟨m - k, by omega⟩
      rw [hj, lr_more k j _ _ _ hlt]
      exact (lr_end _ _ _ _ p5).symm
theorem rst_lr (s : Nat) : ∀ k i, (rst s i).2 ≤ (rst s i).1 → (rst s (i + k)).1 = lr k (s / 2 ^ i) (rst s i).2 (rst s i).1
  | 0, i, h => rfl
  | k + 1, i, h => by
    have hbit : s.testBit i = decide (s / 2 ^ i % 2 = 1) := Nat.testBit_eq_decide_div_mod_eq
    have hstep : rst s (i + 1) = (max (rst s i).1 (if s.testBit i then (rst s i).2 + 1 else 0), if s.testBit i then (rst s i).2 + 1 else 0) := rfl
    rw [show i + (k + 1) = (i + 1) + k by omega, rst_lr s k (i + 1) (by rw [hstep]; exact Nat.le_max_right _ _)]
    have hd : s / 2 ^ (i + 1) = s / 2 ^ i / 2 := by rw [Nat.div_div_eq_div_mul, Nat.pow_succ]
    rw [hd, hstep, hbit]
    simp only [lr]
    by_cases hy : s / 2 ^ i % 2 = 1
    · simp [hy]
    · simp [hy]
theorem row_eq (s L : Nat) (h : s < 2 ^ L) (hL : L ≤ 16) : (rst s L).1 = longestL s := by
  have h1 := rst_lr s L 0 (Nat.le_refl _)
  rw [Nat.zero_add] at h1
  have h2 : s < 65536 := Nat.lt_of_lt_of_le h (two_pow_le (b := 16) hL)
  have h3 := rowsL_lr 16 s 0 (Nat.le_refl _) (by simpa using h2) h2
  have h4 := lr_more L (16 - L) s 0 0 h
  rw [show L + (16 - L) = 16 by omega] at h4
  rw [h1]
  unfold longestL
  rw [h3, h4]
  simp [rst]
/-! ### What a mark that is no tear says of a set -/
theorem part_eq {m : Mk} (h : okPart m) (hk : m.kind = 2 ∨ m.kind = 3) : partN m = btw m.fr.toNat m.to.toNat := rfl
theorem popc_full (t a b : Nat) (ha : a ≤ b) (hb : b < 16) : popc 16 (t &&& btw a b) = b - a + 1 ↔ t &&& btw a b = btw a b := by
  rw [← feet_popc t a b (by omega) hb]
  have hbt : ∀ i, (btw a b).testBit i = (decide (a ≤ i) && decide (i < b + 1)) := by
    intro i
    have : btw a b = blkN a (b + 1 - a) := by
      unfold btw blkN
      rw [Nat.sub_mul, Nat.one_mul, ← Nat.pow_add, show b + 1 - a + a = b + 1 by omega]
    rw [this, blkN_bit, show a + (b + 1 - a) = b + 1 by omega]
  unfold feetN
  have hl : (List.range' a (b + 1 - a)).length = b - a + 1 := by rw [List.length_range']; omega
  rw [← hl, List.length_filter_eq_length_iff]
  constructor
  · intro h
    apply Nat.eq_of_testBit_eq
    intro i
    rw [Nat.testBit_and, hbt]
    by_cases hi : a ≤ i ∧ i < b + 1
    · have := h i (List.mem_range'_1.2 ⟨hi.1, by omega⟩)
      rw [this]; simp
    · have : (decide (a ≤ i) && decide (i < b + 1)) = false := by simp; omega
      rw [this]; simp
  · intro h i hi
    have hi' := List.mem_range'_1.1 hi
    have h2 := congrArg (fun x => x.testBit i) h
    simp only [Nat.testBit_and] at h2
    rw [hbt, decide_eq_true (show a ≤ i by omega), decide_eq_true (show i < b + 1 by omega)] at h2
    simpa using h2
theorem popc_le_full (t a b : Nat) (ha : a ≤ b) (hb : b < 16) : popc 16 (t &&& btw a b) ≤ b - a + 1 := by
  rw [← feet_popc t a b (by omega) hb]
  unfold feetN
  refine Nat.le_trans (List.length_filter_le _ _) ?_
  rw [List.length_range']; omega
theorem Holds_ok (t L : Nat) (m : Mk) (h1 : 1 ≤ L) (h16 : L ≤ 16) (ht : t < 2 ^ L) (hp : okPart m) : RV ft 76 [I64 t, I64 L, encM m] (.bool (claimT m t)) := by
  refine RV_of ft76 rfl ?_
  simp only [c76, r76]
  have hgap := Gaps_ok t L (by omega)
  rw [gaps_eq t L ht h16] at hgap
  have hall := Feet_ok t 0 (L - 1) (by omega) (by omega)
  rw [feet_all t L h1 h16 ht] at hall
  have hall' : RV ft 42 [I64 t, I64 0, I64 ((L - 1 : Nat) : Int)] (I64 (popc 16 t : Nat)) := hall
  have hw1 : IntKind.i64.wrap ((L : Int) - 1) = ((L - 1 : Nat) : Int) := by rw [wrap_i64 _ (by omega) (by omega)]; omega
  cases k2 : (m.kind == 2)
  case true =>
    have hk : m.kind = 2 := by simpa using k2
    obtain ⟨q1, q2, q3⟩ := hp (Or.inl hk)
    have hf := Feet_ok t m.fr.toNat m.to.toNat (by omega) (by omega)
    rw [feet_popc _ _ _ (by omega) (by omega), Int.toNat_of_nonneg q1, Int.toNat_of_nonneg (by omega)] at hf
    have hw : IntKind.i64.wrap (IntKind.i64.wrap (m.to - m.fr) + 1) = m.to - m.fr + 1 := by rw [wrap_i64 (m.to - m.fr) (by omega) (by omega), wrap_i64 _ (by omega) (by omega)]
    simp only [go_sem, Nat.reduceEqDiff, Nat.reduceAdd, Nat.reduceLT, Nat.reduceLeDiff, reduceIte, and_self, decide_true, decide_false, beq_self_eq_true, k2, WB42, WVH_eq hf, true_and, hw]
    have e := popc_full t m.fr.toNat m.to.toNat (by omega) (by omega)
    unfold claimT partN
    rw [if_pos k2]
    congr 1
    rw [Bool.eq_iff_iff, beq_iff_eq, beq_iff_eq]
    unfold btw at e ⊢
    constructor
    · intro h; exact congrArg _ (e.1 (by omega))
    · intro h; have := e.2 (by exact_mod_cast h); omega
  case false =>
    cases k3 : (m.kind == 3)
    case true =>
      have hk : m.kind = 3 := by simpa using k3
      obtain ⟨q1, q2, q3⟩ := hp (Or.inr hk)
      have hf := Feet_ok t m.fr.toNat m.to.toNat (by omega) (by omega)
      rw [feet_popc _ _ _ (by omega) (by omega), Int.toNat_of_nonneg q1, Int.toNat_of_nonneg (by omega)] at hf
      have hw : IntKind.i64.wrap (IntKind.i64.wrap (m.to - m.fr) + 1) = m.to - m.fr + 1 := by rw [wrap_i64 (m.to - m.fr) (by omega) (by omega), wrap_i64 _ (by omega) (by omega)]
      simp only [go_sem, Nat.reduceEqDiff, Nat.reduceAdd, Nat.reduceLT, Nat.reduceLeDiff, reduceIte, and_self, decide_true, decide_false, beq_self_eq_true, k2, k3, WB42, WVH_eq hf, true_and, hw]
      have e := popc_full t m.fr.toNat m.to.toNat (by omega) (by omega)
      have e' := popc_le_full t m.fr.toNat m.to.toNat (by omega) (by omega)
      unfold claimT partN
      rw [if_neg (by simp [k2]), if_pos k3]
      congr 1
      rw [Bool.eq_iff_iff, decide_eq_true_iff, bne_iff_ne]
      unfold btw at e e' ⊢
      constructor
      · intro h h2; have := e.2 (by exact_mod_cast h2); omega
      · intro h
        have : ¬ popc 16 (t &&& 2 ^ (m.to.toNat + 1) - 2 ^ m.fr.toNat) = m.to.toNat - m.fr.toNat + 1 := fun h3 => h (congrArg _ (e.1 h3))
        omega
    case false =>
      cases k4 : (m.kind == 4)
      · simp only [go_sem, Nat.reduceEqDiff, Nat.reduceAdd, Nat.reduceLT, Nat.reduceLeDiff, reduceIte, and_self, decide_true, decide_false, beq_self_eq_true, k2, k3, k4, WB44, WVH_eq hgap, WB59, WVH_eq (within_ok _ _ _), true_and]
        unfold claimT
        rw [if_neg (by simp [k2]), if_neg (by simp [k3]), if_neg (by simp [k4])]
      · simp only [go_sem, Nat.reduceEqDiff, Nat.reduceAdd, Nat.reduceLT, Nat.reduceLeDiff, reduceIte, and_self, decide_true, decide_false, beq_self_eq_true, k2, k3, k4, hw1, WB42, WVH_eq hall', WB59, WVH_eq (within_ok _ _ _), true_and]
        unfold claimT
        rw [if_neg (by simp [k2]), if_neg (by simp [k3]), if_pos k4]
end Go.Ab.T
end

section
namespace Go.Ab.T
set_option maxRecDepth 8000
set_option linter.unusedSimpArgs false
set_option linter.unusedVariables false
set_option maxHeartbeats 1000000
/-- A call's result by what is asked of it. -/
theorem RV_ex {f : FuncId} {np : Nat} {c : ACode} {rs : List Res} {md : Md} (hf : ft f = some ⟨np, c, rs, md⟩) {as : List AV} (hl : as.length = np) (P : AV → Prop)
    (h : W ft c ⟨entry as, .nil⟩ (Fin rs fun u m => P (snap m dep u))) : ∃ v, RV ft f as v ∧ P v := by
  rw [← WR_f hf hl] at h
  obtain ⟨n, p, e, q⟩ := h
  exact ⟨_, ⟨n, by simp [callV, e]⟩, q⟩
theorem in_ok (n a b : Int) : RV ft 43 [I64 n, .agg [I64 a, I64 b]] (.bool (decide (a ≤ n) && decide (n ≤ b))) := by
  refine RV_of ft43 rfl ?_
  simp only [c43, r43]
  repeat' (first | simp only [go_sem, Nat.reduceEqDiff, Nat.reduceAdd, Nat.reduceLT, Nat.reduceLeDiff, reduceIte, and_self, decide_true, decide_false, beq_self_eq_true, Bool.not_true, Bool.not_false, decide_true, decide_false, true_and, and_true, *] | (refine Cs_of (fun _ => ?_) (fun _ => ?_)))
theorem shl1_i64 (n : Nat) (h : n < 62) : IntKind.i64.wrap ((1 : Int) * 2 ^ (min (Int.toNat (n : Int)) 64)) = ((2 ^ n : Nat) : Int) := by
  have := two_pow_le (a := n) (b := 62) (by omega)
  have := Nat.two_pow_pos n
  rw [Int.toNat_natCast, Nat.min_eq_left (by omega), show ((1 : Int) * 2 ^ n) = ((2 ^ n : Nat) : Int) by simp, wrap_i64 _ (by omega) (by omega)]
theorem andNot64 (a b : Nat) (ha : a < 9223372036854775808) (hb : b < 9223372036854775808) : andNotI .i64 (a : Int) (b : Int) = ((a &&& (18446744073709551615 ^^^ b) : Nat) : Int) := by
  show IntKind.i64.wrap ((BitVec.ofInt 64 (a : Int) &&& ~~~(BitVec.ofInt 64 (b : Int))).toNat : Int) = _
  have h1 : (BitVec.ofInt 64 (a : Int) &&& ~~~(BitVec.ofInt 64 (b : Int))).toNat = a &&& (18446744073709551615 ^^^ b) := by
    rw [← BitVec.allOnes_xor, BitVec.toNat_and, BitVec.toNat_xor, BitVec.ofInt_natCast, BitVec.ofInt_natCast, BitVec.toNat_ofNat, BitVec.toNat_ofNat, Nat.mod_eq_of_lt (by omega), Nat.mod_eq_of_lt (by omega)]
    rfl
  have h2 : a &&& (18446744073709551615 ^^^ b) ≤ a := Nat.and_le_left
  rw [h1, wrap_i64 _ (by omega) (by omega)]
theorem clear_foot (L g k : Nat) (hL : L ≤ 16) : andn (allN L) g &&& (18446744073709551615 ^^^ 2 ^ k) = andn (allN L) (g ||| 2 ^ k) := by
  apply Nat.eq_of_testBit_eq
  intro i
  by_cases hi : i < L
  · rw [Nat.testBit_and, andn_bit _ _ _ (by omega), andn_bit _ _ _ (by omega), Nat.testBit_xor, show (18446744073709551615 : Nat) = 2 ^ 64 - 1 from rfl, Nat.testBit_two_pow_sub_one, Nat.testBit_or, decide_eq_true (show i < 64 by omega)]
    simp [Bool.and_assoc]
  · have h1 : ∀ y, (andn (allN L) y).testBit i = false := by
      intro y
      unfold andn allN
      rw [Nat.testBit_and, Nat.testBit_two_pow_sub_one, decide_eq_false hi]; rfl
    rw [Nat.testBit_and, h1, h1]; rfl
structure Bk where
  fr : Int
  to : Int
abbrev encBk (b : Bk) : AV := .agg [I64 b.fr, I64 b.to]
theorem sn_bs (m : Mem) (k : Nat) (l : List Bk) : (l.map encBk).map (snap m (k + 2)) = l.map encBk := by rw [List.map_map]; rfl
theorem hot_bs (k : Nat) (l : List Bk) : (l.map encBk).any (hot (k + 2)) = false := by
  induction l with
  | nil => rfl
  | cons a l ih => simp only [List.map_cons, List.any_cons, ih]; rfl
theorem truth_ok (r : Rl) (L : Nat) (h : Ok r L) (l : List Bk) (hl : l.length ≤ 20) : ∃ v, RV ft 41 [encR r, .sl (l.map encBk) .unk] v ∧ ∃ (set : Nat) (is : Bool), v = .tup [I64 set, .bool is] ∧ (is = true → IsT r L set) := by
  have h1 := h.one
  have h9 := h.nine
  have h10 := h.ten
  refine RV_ex ft41 rfl _ ?_
  simp only [c41, r41]
  have eL : IntKind.u64.wrap (L : Int) = (L : Int) := wrap_u64 _ (by omega) (by omega)
  have eS : IntKind.i64.wrap (((2 ^ L : Nat) : Int) - 1) = ((allN L : Nat) : Int) := by
    have := two_pow_le (a := L) (b := 16) (by omega)
    have := Nat.two_pow_pos L
    unfold allN
    rw [wrap_i64 _ (by omega) (by omega)]; omega
  simp only [go_sem, Nat.reduceEqDiff, Nat.reduceAdd, Nat.reduceLT, Nat.reduceLeDiff, reduceIte, and_self, decide_true, decide_false, beq_self_eq_true, h.feet, eL, decide_eq_false (show ¬ (L : Int) < 0 by omega), shl1_i64 L (by omega), eS]
  have hfalse : ∀ (m : Mem), ∃ (set : Nat) (is : Bool), (AV.tup [.int .i64 0, .bool false]) = .tup [I64 set, .bool is] ∧ (is = true → IsT r L set) := fun m => ⟨0, false, rfl, fun h => by cases h⟩
  refine WL_inv (α := Nat × List Mk) (fun a e mm => e 1 = .sl (l.map encBk) .unk ∧ e 2 = .ptr 0 0 0 ∧ e 8 = I64 a.1 ∧ r.marks.drop a.1 = a.2 ∧ a.1 ≤ r.marks.length ∧ mm.blks[0]? = some (.live [encR r] 2) ∧
    ∃ n g : Nat, e 7 = I64 n ∧ n ≤ 20 ∧ n ≤ l.length ∧ e 6 = I64 (andn (allN L) g : Nat) ∧ ∀ u, Choice (a.2.filter isTear) 0 u → Choice (tearsL r) 0 (g ||| u)) (fun a => r.marks.length - a.1) (0, r.marks) ?_ ?_
  · simp only [go_sem, Nat.reduceEqDiff, Nat.reduceAdd, Nat.reduceLT, Nat.reduceLeDiff, reduceIte, and_self, decide_true, decide_false, beq_self_eq_true]
    refine ⟨trivial, trivial, rfl, trivial, by omega, trivial, 0, 0, rfl, by omega, by omega, ?_, fun u hu => by rw [Nat.zero_or]; exact hu⟩
    · have : andn (allN L) 0 = allN L := by
        apply Nat.eq_of_testBit_eq; intro i
        by_cases hi : i < 16
        · rw [andn_bit _ _ _ hi]; simp
        · unfold andn allN; rw [Nat.testBit_and, Nat.testBit_two_pow_sub_one, decide_eq_false (show ¬ i < L by omega)]; rfl
      rw [this]
  · rintro ⟨k, ms⟩ e ⟨blks, toks⟩ ⟨g1, g2, g8, hd, hk, hb0, n, g, g7, hn20, hnl, g6, hch⟩
    dsimp only at g8 hd hk hb0 hch
    have hal := allN_lt L (by omega)
    have hset : andn (allN L) g < 65536 := andn_lt _ _ hal
    rcases ms with _ | ⟨x, ms⟩
    · have hk' := drop_nil hd
      have hg0 : Choice (tearsL r) 0 g := by simpa using hch 0 ⟨rfl, rfl⟩
      have hset2 : andn (allN L) g < 2 ^ L := Nat.lt_of_le_of_lt Nat.and_le_left (by unfold allN; have := Nat.two_pow_pos L; omega)
      simp only [go_sem, Nat.reduceEqDiff, Nat.reduceAdd, Nat.reduceLT, Nat.reduceLeDiff, reduceIte, and_self, decide_true, decide_false, beq_self_eq_true, g2, g8, hb0, List.length_map, dec_ge hk']
      refine WL_inv (α := Nat × List Mk) (fun a e mm => e 1 = .sl (l.map encBk) .unk ∧ e 2 = .ptr 0 0 0 ∧ e 12 = I64 a.1 ∧ r.marks.drop a.1 = a.2 ∧ a.1 ≤ r.marks.length ∧ mm.blks[0]? = some (.live [encR r] 2) ∧
        e 7 = I64 n ∧ e 6 = I64 (andn (allN L) g : Nat) ∧ ((∀ m ∈ a.2, isTear m = false → claimT m (andn (allN L) g) = true) → ∀ m ∈ r.marks, isTear m = false → claimT m (andn (allN L) g) = true)) (fun a => r.marks.length - a.1) (0, r.marks) ?_ ?_
      · simp only [go_sem, Nat.reduceEqDiff, Nat.reduceAdd, Nat.reduceLT, Nat.reduceLeDiff, reduceIte, and_self, decide_true, decide_false, beq_self_eq_true, g1, g2, g6, g7]
        exact ⟨trivial, trivial, rfl, trivial, by omega, hb0, trivial, trivial, fun h => h⟩
      · rintro ⟨k, ms⟩ e ⟨blks, toks⟩ ⟨g1, g2, g12, hd, hk, hb0, g7, g6, hcl⟩
        dsimp only at g12 hd hk hb0 hcl
        rcases ms with _ | ⟨x, ms⟩
        · have hk' := drop_nil hd
          simp only [go_sem, Nat.reduceEqDiff, Nat.reduceAdd, Nat.reduceLT, Nat.reduceLeDiff, reduceIte, and_self, decide_true, decide_false, beq_self_eq_true, g1, g2, g6, g7, g12, hb0, List.length_map, dec_ge hk']
          refine ⟨_, _, rfl, fun _ => ⟨⟨g, hg0, rfl⟩, fun m hm => ?_⟩⟩
          obtain ⟨m1, m2⟩ := List.mem_filter.1 hm
          exact hcl (fun m hm => by cases hm) m m1 (by simpa using m2)
        · obtain ⟨hg, hd', hlt⟩ := drop_cons hd
          have hw : IntKind.i64.wrap ((k : Int) + 1) = ((k + 1 : Nat) : Int) := by rw [wrap_i64 _ (by omega) (by omega)]; rfl
          have hH := Holds_ok (andn (allN L) g) L x h1 (by omega) hset2 (h.part x (List.mem_of_getElem? hg))
          simp only [go_sem, Nat.reduceEqDiff, Nat.reduceAdd, Nat.reduceLT, Nat.reduceLeDiff, reduceIte, and_self, decide_true, decide_false, beq_self_eq_true, g2, g6, g12, hb0, List.length_map, dec_lt hlt, dec_nn, Int.toNat_natCast, List.getElem?_map, hg]
          cases ht : (x.kind != 1)
          case false =>
            have hit : isTear x = true := by unfold isTear; simpa [bne] using ht
            simp only [go_sem, Nat.reduceEqDiff, Nat.reduceAdd, Nat.reduceLT, Nat.reduceLeDiff, reduceIte, and_self, decide_true, decide_false, beq_self_eq_true, g12, hw]
            refine Nx_of (k + 1, ms) (by simp; omega) ?_
            simp only [go_sem, Nat.reduceEqDiff, Nat.reduceAdd, Nat.reduceLT, Nat.reduceLeDiff, reduceIte, and_self, decide_true, decide_false, beq_self_eq_true, g1, g2, g6, g7]
            refine ⟨trivial, trivial, trivial, hd', by omega, hb0, trivial, trivial, fun hh => hcl fun m hm hmt => ?_⟩
            rcases List.mem_cons.1 hm with rfl | hm
            · rw [hit] at hmt; cases hmt
            · exact hh m hm hmt
          case true =>
            simp only [go_sem, Nat.reduceEqDiff, Nat.reduceAdd, Nat.reduceLT, Nat.reduceLeDiff, reduceIte, and_self, decide_true, decide_false, beq_self_eq_true, g2, g6, g12, hb0, dec_nn, Int.toNat_natCast, List.getElem?_map, hg, h.feet, WB76, WVH_eq hH, true_and]
            cases hcx : claimT x (andn (allN L) g)
            case false =>
              simp only [go_sem, Nat.reduceEqDiff, Nat.reduceAdd, Nat.reduceLT, Nat.reduceLeDiff, reduceIte, and_self, decide_true, decide_false, beq_self_eq_true, Bool.not_false]
              exact hfalse ⟨[], []⟩
            case true =>
              simp only [go_sem, Nat.reduceEqDiff, Nat.reduceAdd, Nat.reduceLT, Nat.reduceLeDiff, reduceIte, and_self, decide_true, decide_false, beq_self_eq_true, Bool.not_true, g12, hw]
              refine Nx_of (k + 1, ms) (by simp; omega) ?_
              simp only [go_sem, Nat.reduceEqDiff, Nat.reduceAdd, Nat.reduceLT, Nat.reduceLeDiff, reduceIte, and_self, decide_true, decide_false, beq_self_eq_true, g1, g2, g6, g7]
              refine ⟨trivial, trivial, trivial, hd', by omega, hb0, trivial, trivial, fun hh => hcl fun m hm hmt => ?_⟩
              rcases List.mem_cons.1 hm with rfl | hm
              · exact hcx
              · exact hh m hm hmt
    · obtain ⟨hg, hd', hlt⟩ := drop_cons hd
      have hw : IntKind.i64.wrap ((k : Int) + 1) = ((k + 1 : Nat) : Int) := by rw [wrap_i64 _ (by omega) (by omega)]; rfl
      simp only [go_sem, Nat.reduceEqDiff, Nat.reduceAdd, Nat.reduceLT, Nat.reduceLeDiff, reduceIte, and_self, decide_true, decide_false, beq_self_eq_true, g1, g2, g6, g7, g8, hb0, List.length_map, dec_lt hlt, dec_nn, Int.toNat_natCast, List.getElem?_map, hg]
      cases ht : (x.kind != 1)
      case true =>
        have hnt : isTear x = false := by unfold isTear; simpa [bne] using ht
        simp only [go_sem, Nat.reduceEqDiff, Nat.reduceAdd, Nat.reduceLT, Nat.reduceLeDiff, reduceIte, and_self, decide_true, decide_false, beq_self_eq_true, g8, hw]
        refine Nx_of (k + 1, ms) (by simp; omega) ?_
        simp only [go_sem, Nat.reduceEqDiff, Nat.reduceAdd, Nat.reduceLT, Nat.reduceLeDiff, reduceIte, and_self, decide_true, decide_false, beq_self_eq_true, g1, g2, g6, g7]
        refine ⟨trivial, trivial, trivial, hd', by omega, get_app hb0, n, g, rfl, hn20, hnl, rfl, fun u hu => hch u ?_⟩
        rw [List.filter_cons, hnt]; exact hu
      case false =>
        have hit : isTear x = true := by unfold isTear; simpa [bne] using ht
        have hmem : x ∈ tearsL r := List.mem_filter.2 ⟨List.mem_of_getElem? hg, hit⟩
        obtain ⟨t1, t2, t3, t4, t5, t6, t7⟩ := h.tearN x hmem
        simp only [go_sem, Nat.reduceEqDiff, Nat.reduceAdd, Nat.reduceLT, Nat.reduceLeDiff, reduceIte, and_self, decide_true, decide_false, beq_self_eq_true, g1, g7, List.length_map]
        by_cases hnl2 : n < l.length
        case neg =>
          simp only [go_sem, Nat.reduceEqDiff, Nat.reduceAdd, Nat.reduceLT, Nat.reduceLeDiff, reduceIte, and_self, decide_true, decide_false, beq_self_eq_true, g1, g7, List.length_map, decide_eq_true (show (l.length : Int) ≤ (n : Int) by omega)]
          exact hfalse ⟨[], []⟩
        obtain ⟨b, hb⟩ : ∃ b, l[n]? = some b := ⟨l[n], by simp [hnl2]⟩
        have hwn : IntKind.i64.wrap ((n : Int) + 1) = ((n + 1 : Nat) : Int) := by rw [wrap_i64 _ (by omega) (by omega)]; rfl
        simp only [go_sem, Nat.reduceEqDiff, Nat.reduceAdd, Nat.reduceLT, Nat.reduceLeDiff, reduceIte, and_self, decide_true, decide_false, beq_self_eq_true, g1, g7, List.length_map, decide_eq_false (show ¬ (l.length : Int) ≤ (n : Int) by omega), dec_nn, Int.toNat_natCast, List.getElem?_map, hb, hwn]
        have hxb : (blks ++ [Blk.live [encM x] 5] ++ [Blk.live [encBk b] 2])[blks.length]? = some (.live [encM x] 5) := get_app (get_last _ _)
        cases hbt : decide (b.to < b.fr)
        case true =>
          simp only [go_sem, Nat.reduceEqDiff, Nat.reduceAdd, Nat.reduceLT, Nat.reduceLeDiff, reduceIte, and_self, decide_true, decide_false, beq_self_eq_true, hxb]
          cases hlo : decide (0 < x.lo)
          case true =>
            simp only [go_sem, Nat.reduceEqDiff, Nat.reduceAdd, Nat.reduceLT, Nat.reduceLeDiff, reduceIte, and_self, decide_true, decide_false, beq_self_eq_true, hxb]
            exact hfalse ⟨[], []⟩
          case false =>
            have hlo0 := of_decide_eq_false hlo
            simp only [go_sem, Nat.reduceEqDiff, Nat.reduceAdd, Nat.reduceLT, Nat.reduceLeDiff, reduceIte, and_self, decide_true, decide_false, beq_self_eq_true, hxb, g8, hw]
            refine Nx_of (k + 1, ms) (by simp; omega) ?_
            simp only [go_sem, Nat.reduceEqDiff, Nat.reduceAdd, Nat.reduceLT, Nat.reduceLeDiff, reduceIte, and_self, decide_true, decide_false, beq_self_eq_true, g1, g2, g6]
            refine ⟨trivial, trivial, trivial, hd', by omega, get_app (get_app hb0), n + 1, g, rfl, by omega, by omega, rfl, fun u hu => hch u ?_⟩
            rw [List.filter_cons, hit]
            exact Or.inl ⟨0, u, Or.inl ⟨by omega, rfl⟩, hu, by simp⟩
        case false =>
          have hbt' := of_decide_eq_false hbt
          simp only [go_sem, Nat.reduceEqDiff, Nat.reduceAdd, Nat.reduceLT, Nat.reduceLeDiff, reduceIte, and_self, decide_true, decide_false, beq_self_eq_true, hxb]
          cases c1 : decide (b.fr < x.fr)
          case true =>
            simp only [go_sem, Nat.reduceEqDiff, Nat.reduceAdd, Nat.reduceLT, Nat.reduceLeDiff, reduceIte, and_self, decide_true, decide_false, beq_self_eq_true, hxb]
            exact hfalse ⟨[], []⟩
          cases c2 : decide (x.to < b.to)
          case true =>
            simp only [go_sem, Nat.reduceEqDiff, Nat.reduceAdd, Nat.reduceLT, Nat.reduceLeDiff, reduceIte, and_self, decide_true, decide_false, beq_self_eq_true, hxb, c1, c2]
            exact hfalse ⟨[], []⟩
          have c1' := of_decide_eq_false c1
          have c2' := of_decide_eq_false c2
          obtain ⟨f, hf⟩ : ∃ f : Nat, b.fr = f := ⟨b.fr.toNat, by omega⟩
          obtain ⟨t, htt⟩ : ∃ t : Nat, b.to = t := ⟨b.to.toNat, by omega⟩
          have hwd : IntKind.i64.wrap (IntKind.i64.wrap (b.to - b.fr) + 1) = ((t - f + 1 : Nat) : Int) := by
            rw [wrap_i64 (b.to - b.fr) (by omega) (by omega), wrap_i64 _ (by omega) (by omega)]; omega
          simp only [go_sem, Nat.reduceEqDiff, Nat.reduceAdd, Nat.reduceLT, Nat.reduceLeDiff, reduceIte, and_self, decide_true, decide_false, beq_self_eq_true, hxb, c1, c2, hwd, WB43, WVH_eq (in_ok _ _ _), true_and]
          cases c3 : (decide (x.lo ≤ ((t - f + 1 : Nat) : Int)) && decide (((t - f + 1 : Nat) : Int) ≤ x.hi))
          case false =>
            simp only [go_sem, Nat.reduceEqDiff, Nat.reduceAdd, Nat.reduceLT, Nat.reduceLeDiff, reduceIte, and_self, decide_true, decide_false, beq_self_eq_true, hxb, c1, c2, c3, Bool.not_false]
            exact hfalse ⟨[], []⟩
          have c3' : x.lo ≤ ((t - f + 1 : Nat) : Int) ∧ ((t - f + 1 : Nat) : Int) ≤ x.hi := by simpa using c3
          have hbb : (blks ++ [Blk.live [encM x] 5] ++ [Blk.live [encBk b] 2])[(blks ++ [Blk.live [encM x] 5]).length]? = some (.live [encBk b] 2) := get_last _ _
          have hb02 : (blks ++ [Blk.live [encM x] 5] ++ [Blk.live [encBk b] 2])[0]? = some (.live [encR r] 2) := get_app (get_app hb0)
          simp only [go_sem, Nat.reduceEqDiff, Nat.reduceAdd, Nat.reduceLT, Nat.reduceLeDiff, reduceIte, and_self, decide_true, decide_false, beq_self_eq_true, hxb, c1, c2, c3, Bool.not_true]
          refine WL_inv (α := Nat) (fun j e mm => e 1 = .sl (l.map encBk) .unk ∧ e 2 = .ptr 0 0 0 ∧ e 7 = I64 (n + 1 : Nat) ∧ e 8 = I64 k ∧ e 10 = .ptr (blks ++ [Blk.live [encM x] 5]).length 0 0 ∧ e 11 = I64 j ∧ mm = ⟨blks ++ [Blk.live [encM x] 5] ++ [Blk.live [encBk b] 2], toks⟩ ∧ f ≤ j ∧ j ≤ t + 1 ∧ e 6 = I64 (andn (allN L) (g ||| blkN f (j - f)) : Nat)) (fun j => t + 1 - j) f ?_ ?_
          · simp only [go_sem, Nat.reduceEqDiff, Nat.reduceAdd, Nat.reduceLT, Nat.reduceLeDiff, reduceIte, and_self, decide_true, decide_false, beq_self_eq_true, g1, g2, g6, g8]
            refine ⟨trivial, trivial, trivial, trivial, trivial, by rw [hf], trivial, Nat.le_refl _, by omega, ?_⟩
            rw [Nat.sub_self, blkN_zero, Nat.or_zero]
          · rintro j e mm ⟨g1, g2, g7, g8, g10, g11, rfl, hj1, hj2, g6⟩
            by_cases hjt : j ≤ t
            · have hwj : IntKind.i64.wrap ((j : Int) + 1) = ((j + 1 : Nat) : Int) := by rw [wrap_i64 _ (by omega) (by omega)]; rfl
              have ej : IntKind.u64.wrap (j : Int) = (j : Int) := wrap_u64 _ (by omega) (by omega)
              have hset2 : andn (allN L) (g ||| blkN f (j - f)) < 65536 := andn_lt _ _ hal
              have hpj := two_pow_le (a := j) (b := 16) (by omega)
              have eA : andNotI .i64 ((andn (allN L) (g ||| blkN f (j - f)) : Nat) : Int) ((2 ^ j : Nat) : Int) = ((andn (allN L) (g ||| blkN f (j + 1 - f)) : Nat) : Int) := by
                rw [andNot64 _ _ (by omega) (by omega), clear_foot L _ j (by omega), show j + 1 - f = (j - f) + 1 by omega, blkN_succ, show f + (j - f) = j by omega, Nat.or_assoc]
              simp only [go_sem, Nat.reduceEqDiff, Nat.reduceAdd, Nat.reduceLT, Nat.reduceLeDiff, reduceIte, and_self, decide_true, decide_false, beq_self_eq_true, g1, g2, g6, g7, g8, g10, g11, hbb, decide_eq_true (show (j : Int) ≤ b.to by omega), ej, decide_eq_false (show ¬ (j : Int) < 0 by omega), shl1_i64 j (by omega), eA, hwj]
              refine Nx_of (j + 1) (by omega) ?_
              simp only [go_sem, Nat.reduceEqDiff, Nat.reduceAdd, Nat.reduceLT, Nat.reduceLeDiff, reduceIte, and_self, decide_true, decide_false, beq_self_eq_true, g1, g2, g7, g8, g10]
              exact ⟨trivial, trivial, trivial, trivial, trivial, trivial, trivial, by omega, by omega, trivial⟩
            · obtain rfl : j = t + 1 := by omega
              simp only [go_sem, Nat.reduceEqDiff, Nat.reduceAdd, Nat.reduceLT, Nat.reduceLeDiff, reduceIte, and_self, decide_true, decide_false, beq_self_eq_true, g10, g11, hbb, decide_eq_false (show ¬ ((t + 1 : Nat) : Int) ≤ b.to by omega), g8, hw]
              refine Nx_of (k + 1, ms) (by simp; omega) ?_
              simp only [go_sem, Nat.reduceEqDiff, Nat.reduceAdd, Nat.reduceLT, Nat.reduceLeDiff, reduceIte, and_self, decide_true, decide_false, beq_self_eq_true, g1, g2, g6, g7]
              refine ⟨trivial, trivial, trivial, hd', by omega, hb02, n + 1, g ||| blkN f (t + 1 - f), rfl, by omega, by omega, rfl, fun u hu => ?_⟩
              have := hch (blkN f (t + 1 - f) ||| u) (by
                rw [List.filter_cons, hit]
                exact Or.inl ⟨_, u, Or.inr ⟨f, t + 1 - f, by omega, by omega, by omega, by omega, by omega, rfl⟩, hu, rfl⟩)
              rwa [← Nat.or_assoc] at this
end Go.Ab.T
end

section
namespace Go.Ab.T
set_option maxRecDepth 8000
set_option linter.unusedSimpArgs false
set_option linter.unusedVariables false
set_option maxHeartbeats 1000000
theorem drops_zero {r : Rl} {L : Nat} (h : Ok r L) : Drops r L 0 ↔ ∃ t, t ∈ truthsL r L := by
  constructor
  · rintro ⟨k, g, hc, h0⟩
    have hk : k = 0 := by omega
    subst hk
    refine ⟨andn (allN L) g, (truths_mem h _).2 ⟨⟨g, hc, rfl⟩, fun m hm => ?_⟩⟩
    have hu : untrueN (claimsL r) (andn (allN L) g) = 0 := by omega
    unfold untrueN at hu
    rw [List.length_eq_zero_iff, List.filter_eq_nil_iff] at hu
    simpa using hu m hm
  · rintro ⟨t, ht⟩
    obtain ⟨⟨g, hc, rfl⟩, hcl⟩ := (truths_mem h t).1 ht
    refine ⟨0, g, hc, ?_⟩
    have : untrueN (claimsL r) (andn (allN L) g) = 0 := by
      unfold untrueN
      rw [List.length_eq_zero_iff, List.filter_eq_nil_iff]
      intro m hm; simp [hcl m hm]
    omega
theorem fewest_zero {r : Rl} {L : Nat} (h : Ok r L) : fewestL r L = 0 ↔ truthsL r L ≠ [] := by
  obtain ⟨f1, f2⟩ := fewest_spec h
  constructor
  · intro h0
    rw [h0] at f1
    obtain ⟨t, ht⟩ := (drops_zero h).1 f1
    intro he; rw [he] at ht; cases ht
  · intro hne
    obtain ⟨t, ht⟩ := List.exists_mem_of_ne_nil _ hne
    have := f2 0 ((drops_zero h).2 ⟨t, ht⟩)
    omega
theorem truths_lt {r : Rl} {L : Nat} (h : Ok r L) {t : Nat} (ht : t ∈ truthsL r L) : t < 2 ^ L := by
  obtain ⟨⟨g, _, rfl⟩, _⟩ := (truths_mem h t).1 ht
  exact Nat.lt_of_le_of_lt Nat.and_le_left (by unfold allN; have := Nat.two_pow_pos L; omega)
/-- A foot is surely not there just if no truth has it. -/
theorem foot_away {r : Rl} {n : Int} (h : readyR r = true) (h1 : 0 ≤ n) (h2 : n < r.feet) (hn : TL r ≠ []) (h3 : footK r n = 2) : ∀ t ∈ TL r, t.testBit n.toNat = false := by
  obtain ⟨hnear, h0, hok⟩ := ready_spec h
  have h9 := hok.nine
  have harg : okArg r n n := ⟨h1, Int.le_refl n, h2⟩
  have he : wholeE r n n = 0 := by unfold wholeE; rw [if_pos h0, if_pos harg, err_cases h0, if_neg hn]
  have hhi : wholeHi r n n = highT r (fun t => popc 16 (t &&& btw n.toNat n.toNat)) := by unfold wholeHi; rw [if_pos ⟨h0, harg⟩]
  unfold footK at h3
  rw [if_pos he] at h3
  split at h3
  · omega
  split at h3
  · rename_i h4
    intro t ht
    have := (high_spec h0 hn (fun t => popc 16 (t &&& btw n.toNat n.toNat))).1 t ht
    rw [← hhi, h4] at this
    rw [popc_foot t _ (by omega)] at this
    cases hb : t.testBit n.toNat
    · rfl
    · rw [hb] at this; simp at this
  · omega
theorem feet_one (t k : Nat) (h : k < 16) : feetN t k k = if t.testBit k then 1 else 0 := by
  rw [feet_popc t k k (by omega) h, popc_foot t k h]
theorem ReelTrue_run (r : Rl) (l : List Bk) : RV ft 7 [encR r, .sl (l.map encBk) .unk] (.bool true) := by
  refine RV_of ft7 rfl ?_
  simp only [c7, r7]
  cases hr : readyR r
  case false => simp only [go_sem, Nat.reduceEqDiff, Nat.reduceAdd, Nat.reduceLT, Nat.reduceLeDiff, reduceIte, and_self, decide_true, decide_false, beq_self_eq_true, sn_ms, WB40, WVH_eq (ready_ok r), true_and, hot_ms, hr, WB15, WVH_eq works_ok]
  cases hl : decide (20 < (l.length : Int))
  case true => simp only [go_sem, Nat.reduceEqDiff, Nat.reduceAdd, Nat.reduceLT, Nat.reduceLeDiff, reduceIte, and_self, decide_true, decide_false, beq_self_eq_true, sn_ms, WB40, WVH_eq (ready_ok r), true_and, hot_ms, hr, List.length_map, hl, WB15, WVH_eq works_ok]
  have hl' := of_decide_eq_false hl
  obtain ⟨hn, h0, hok⟩ := ready_spec hr
  have hfe := hok.feet
  have h1 := hok.one
  have h9 := hok.nine
  obtain ⟨v, hv, set, is, rfl, his⟩ := truth_ok r _ hok l (by omega)
  cases is
  case false => simp only [go_sem, Nat.reduceEqDiff, Nat.reduceAdd, Nat.reduceLT, Nat.reduceLeDiff, reduceIte, and_self, decide_true, decide_false, beq_self_eq_true, sn_ms, WB40, WVH_eq (ready_ok r), true_and, hot_ms, hr, List.length_map, hl, WB41, sn_bs, WVH_eq hv, hot_bs, WB15, WVH_eq works_ok]
  have hT := his rfl
  have hm : set ∈ TL r := (truths_mem hok set).2 hT
  have hne : TL r ≠ [] := fun h => by rw [h] at hm; cases hm
  have hlt := truths_lt hok hm
  have hE : errT r = 0 := by rw [err_cases h0, if_neg hne]
  have hF : fewL r = 0 := by
    unfold fewL; rw [if_pos h0, (fewest_zero hok).2 hne]; rfl
  have hcnt : ∀ c : Nat → Nat, lowT r c ≤ c set ∧ c set ≤ highT r c := fun c => ⟨(low_spec h0 hne c).1 set hm, (high_spec h0 hne c).1 set hm⟩
  have hb : ∀ c : Nat → Nat, (decide (((lowT r c : Nat) : Int) ≤ ((c set : Nat) : Int)) && decide (((c set : Nat) : Int) ≤ ((highT r c : Nat) : Int))) = true := fun c => by
    have := hcnt c
    rw [decide_eq_true (show ((lowT r c : Nat) : Int) ≤ ((c set : Nat) : Int) by omega), decide_eq_true (show ((c set : Nat) : Int) ≤ ((highT r c : Nat) : Int) by omega)]; rfl
  have eL := Left_ok r hn
  have eS := Splices_ok r hn
  have eG := Longest_ok r hn
  have eF := Fewest_ok r hn
  unfold encB at eL eS eG
  rw [hE] at eL eS eG
  rw [hF, h0] at eF
  simp only [go_sem, Nat.reduceEqDiff, Nat.reduceAdd, Nat.reduceLT, Nat.reduceLeDiff, reduceIte, and_self, decide_true, decide_false, beq_self_eq_true, sn_ms, WB40, WVH_eq (ready_ok r), true_and, hot_ms, hr, List.length_map, hl, WB41, sn_bs, WVH_eq hv, hot_bs, WB23, WVH_eq eL, WB25, WVH_eq eS, WB27, WVH_eq eG, WB19, WVH_eq eF, show ((0 : Int) != 0) = false from rfl]
  refine WL_inv (α := Nat) (fun k e mm => e 2 = .ptr 0 0 0 ∧ e 5 = I64 set ∧ e 7 = .ptr 1 0 0 ∧ e 9 = .ptr 2 0 0 ∧ e 11 = .ptr 3 0 0 ∧ e 15 = I64 k ∧ k ≤ r.feet.toNat ∧ mm = ⟨[.live [encR r] 2, .live [.agg [I64 (lowT r (popc 16) : Nat), I64 (highT r (popc 16) : Nat)]] 2, .live [.agg [I64 (lowT r splicesL : Nat), I64 (highT r splicesL : Nat)]] 2, .live [.agg [I64 (lowT r longestL : Nat), I64 (highT r longestL : Nat)]] 2], []⟩) (fun k => r.feet.toNat - k) 0 ?_ ?_
  · simp only [go_sem, Nat.reduceEqDiff, Nat.reduceAdd, Nat.reduceLT, Nat.reduceLeDiff, reduceIte, and_self, decide_true, decide_false, beq_self_eq_true]
    exact ⟨trivial, trivial, trivial, trivial, trivial, rfl, by omega, trivial⟩
  · rintro k e mm ⟨g2, g5, g7, g9, g11, g15, hk, rfl⟩
    by_cases hlt2 : k < r.feet.toNat
    · have hw : IntKind.i64.wrap ((k : Int) + 1) = ((k + 1 : Nat) : Int) := by rw [wrap_i64 _ (by omega) (by omega)]; rfl
      have hfo := Foot_ok r hn (k : Int)
      obtain ⟨hf0, hf1⟩ := foot_here hr (show (0 : Int) ≤ (k : Int) by omega) (by omega) hne
      rw [hf0] at hfo
      rw [Int.toNat_natCast] at hf1
      have haw := foot_away hr (show (0 : Int) ≤ (k : Int) by omega) (by omega) hne
      rw [Int.toNat_natCast] at haw
      have hft := Feet_ok set k k (by omega) (by omega)
      rw [feet_one _ _ (by omega)] at hft
      simp only [go_sem, Nat.reduceEqDiff, Nat.reduceAdd, Nat.reduceLT, Nat.reduceLeDiff, reduceIte, and_self, decide_true, decide_false, beq_self_eq_true, g2, g5, g7, g9, g11, g15, decide_eq_true (show (k : Int) < r.feet by omega), sn_ms, WB29, WVH_eq hfo, true_and, hot_ms, WB42, WVH_eq hft]
      cases hbit : set.testBit k
      · have h3 : footK r k ≠ 1 := fun h => by have := hf1.1 h set hm; rw [hbit] at this; cases this
        have h3' : (footK r k == 1) = false := by simpa using h3
        simp only [go_sem, Nat.reduceEqDiff, Nat.reduceAdd, Nat.reduceLT, Nat.reduceLeDiff, reduceIte, and_self, decide_true, decide_false, beq_self_eq_true, Bool.false_eq_true, show (((0 : Nat) : Int) == 0) = true from rfl, show ((0 : Int) != 0) = false from rfl, h3', g15, hw]
        refine Nx_of (k + 1) (by omega) ?_
        simp only [go_sem, Nat.reduceEqDiff, Nat.reduceAdd, Nat.reduceLT, Nat.reduceLeDiff, reduceIte, and_self, decide_true, decide_false, beq_self_eq_true, g2, g5, g7, g9, g11]
        exact ⟨trivial, trivial, trivial, trivial, trivial, trivial, by omega, trivial⟩
      · have h3 : footK r k ≠ 2 := fun h => by have := haw h set hm; rw [hbit] at this; cases this
        have h3' : (footK r k == 2) = false := by simpa using h3
        simp only [go_sem, Nat.reduceEqDiff, Nat.reduceAdd, Nat.reduceLT, Nat.reduceLeDiff, reduceIte, and_self, decide_true, decide_false, beq_self_eq_true, show (((1 : Nat) : Int) == 0) = false from rfl, show ((0 : Int) != 0) = false from rfl, h3', g15, hw]
        refine Nx_of (k + 1) (by omega) ?_
        simp only [go_sem, Nat.reduceEqDiff, Nat.reduceAdd, Nat.reduceLT, Nat.reduceLeDiff, reduceIte, and_self, decide_true, decide_false, beq_self_eq_true, g2, g5, g7, g9, g11]
        exact ⟨trivial, trivial, trivial, trivial, trivial, trivial, by omega, trivial⟩
    · have hkf : (k : Int) = r.feet := by omega
      have hw1 : IntKind.i64.wrap (r.feet - 1) = ((r.feet.toNat - 1 : Nat) : Int) := by rw [wrap_i64 _ (by omega) (by omega)]; omega
      have hfa := Feet_ok set 0 (r.feet.toNat - 1) (by omega) (by omega)
      rw [feet_all set _ h1 (by omega) hlt] at hfa
      have hfa' : RV ft 42 [I64 set, I64 0, I64 ((r.feet.toNat - 1 : Nat) : Int)] (I64 (popc 16 set : Nat)) := hfa
      have hga := Gaps_ok set r.feet.toNat (by omega)
      rw [gaps_eq set _ hlt (by omega), ← hfe] at hga
      have hro := Row_ok set r.feet.toNat (by omega)
      rw [row_eq set _ hlt (by omega), ← hfe] at hro
      simp only [go_sem, Nat.reduceEqDiff, Nat.reduceAdd, Nat.reduceLT, Nat.reduceLeDiff, reduceIte, and_self, decide_true, decide_false, beq_self_eq_true, g2, g5, g7, g9, g11, g15, decide_eq_false (show ¬ (k : Int) < r.feet by omega), hw1, WB42, WVH_eq hfa', WB43, WVH_eq (in_ok _ _ _), hb, WB44, WVH_eq hga, WB45, WVH_eq hro, WB15, WVH_eq works_ok, true_and]
end Go.Ab.T
end
