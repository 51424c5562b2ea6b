/-
  A part of the proofs over this seat.
  (The texts AxR1 AxR2 AxR3 AxR4 AxR5 AxR6 AxR7 AxR8 AxR9, one behind the other.)
-/
import Derived.Test.YtbbpdlobjbpchaaDoorT1
import Derived.Test.YtbbpdlobjbpchaaDoorA0
set_option linter.unusedSimpArgs false
set_option linter.unusedVariables false
set_option linter.unusedSectionVars false
section
namespace Go.Ab.T
set_option maxRecDepth 4000
set_option linter.unusedSimpArgs false
structure Mk where
  kind : Int
  fr : Int
  to : Int
  lo : Int
  hi : Int
abbrev encM (m : Mk) : AV := .agg [.int .i64 m.kind, .int .i64 m.fr, .int .i64 m.to, .int .i64 m.lo, .int .i64 m.hi]
structure Rl where
  feet : Int
  marks : List Mk
abbrev encR (r : Rl) : AV := .agg [.int .i64 r.feet, .sl (r.marks.map encM) .unk]
theorem ordered_ok (a b c : Int) : RV ft 69 [I64 a, I64 b, I64 c] (.bool (decide (0 ≤ a) && decide (a ≤ b) && decide (b < c))) := by
  refine RV_of ft69 rfl ?_
  simp only [c69, r69]
  repeat' (first | simp only [go_sem, Nat.reduceEqDiff, Nat.reduceAdd, Nat.reduceLT, Nat.reduceLeDiff, reduceIte, and_self, decide_true, decide_false, beq_self_eq_true, Bool.not_true, Bool.not_false, decide_true, decide_false, true_and, and_true, *] | (refine Cs_of (fun _ => ?_) (fun _ => ?_)))
theorem counts_ok (a b : Int) : RV ft 84 [.agg [I64 a, I64 b]] (.bool (decide (0 ≤ a) && decide (a ≤ b) && decide (b ≤ 16))) := by
  refine RV_of ft84 rfl ?_
  simp only [c84, r84]
  repeat' (first | simp only [go_sem, Nat.reduceEqDiff, Nat.reduceAdd, Nat.reduceLT, Nat.reduceLeDiff, reduceIte, and_self, decide_true, decide_false, beq_self_eq_true, Bool.not_true, Bool.not_false, decide_true, decide_false, true_and, and_true, *] | (refine Cs_of (fun _ => ?_) (fun _ => ?_)))
def described (m : Mk) (n : Int) : Bool :=
  if m.kind == 1 then (decide (0 ≤ m.fr) && decide (m.fr ≤ m.to) && decide (m.to < n)) && (decide (0 ≤ m.lo) && decide (m.lo ≤ m.hi) && decide (m.hi ≤ 16))
  else if m.kind == 2 || m.kind == 3 then (decide (0 ≤ m.fr) && decide (m.fr ≤ m.to) && decide (m.to < n)) && (m.lo == 0 && m.hi == 0)
  else if m.kind == 4 || m.kind == 5 then m.fr == 0 && m.to == 0 && (decide (0 ≤ m.lo) && decide (m.lo ≤ m.hi) && decide (m.hi ≤ 16))
  else false
theorem described_ok (m : Mk) (n : Int) : RV ft 57 [encM m, I64 n] (.bool (described m n)) := by
  refine RV_of ft57 rfl ?_
  simp only [c57, r57]
  repeat' (first | simp only [go_sem, Nat.reduceEqDiff, Nat.reduceAdd, Nat.reduceLT, Nat.reduceLeDiff, reduceIte, and_self, decide_true, decide_false, beq_self_eq_true, Bool.not_true, Bool.not_false, decide_true, decide_false, true_and, and_true, WB69, WB84, WVH_eq (ordered_ok _ _ _), WVH_eq (counts_ok _ _), fillParts_nil, *] | (refine Cs_of (fun _ => ?_) (fun _ => ?_)))
  all_goals simp [described, *]
/-- Every mark is as described. -/
def okMarks (r : Rl) : Bool := r.marks.all fun m => described m r.feet
theorem strange_ok (m : Mk) (r : Rl) : RV ft 56 [encM m, .pv (encR r) 0] (.bool (!described m r.feet)) := by
  refine RV_of ft56 rfl ?_
  simp only [c56, r56]
  repeat' (first | simp only [go_sem, Nat.reduceEqDiff, Nat.reduceAdd, Nat.reduceLT, Nat.reduceLeDiff, reduceIte, and_self, decide_true, decide_false, beq_self_eq_true, Bool.not_true, Bool.not_false, decide_true, decide_false, true_and, and_true, WB57, WVH_eq (described_ok _ _), *] | (refine Cs_of (fun _ => ?_) (fun _ => ?_)))
theorem sn_ms (m : Mem) (k : Nat) (l : List Mk) : (l.map encM).map (snap m (k + 2)) = l.map encM := by
  rw [List.map_map]; rfl
theorem hot_ms (k : Nat) (l : List Mk) : (l.map encM).any (hot (k + 2)) = false := by
  induction l with
  | nil => rfl
  | cons a l ih => simp only [List.map_cons, List.any_cons, ih]; rfl
theorem strange_p (r : Rl) : IsP ft encM (.fn 56 [] [.pv (encR r) 0]) fun m => .bool (!described m r.feet) := by
  intro m s K
  simp only [go_sem, Nat.reduceEqDiff, Nat.reduceAdd, Nat.reduceLT, Nat.reduceLeDiff, reduceIte, and_self, decide_true, decide_false, beq_self_eq_true, WB56, sn_ms, WVH_eq (strange_ok m r), true_and]
def idxFrom {α : Type} (p : α → Bool) : List α → Nat → Int
  | [], _ => -1
  | x :: r, k => if p x then k else idxFrom p r (k + 1)
theorem indexFunc_ok (l : List Mk) (f : AV) (p : Mk → Bool) (hf : IsP ft encM f fun m => .bool (p m)) (hl : l.length < 1000000) : RV ft 85 [.sl (l.map encM) .unk, f] (I64 (idxFrom p l 0)) := by
  refine RV_of ft85 rfl ?_
  simp only [c85, r85]
  repeat' (first | simp only [go_sem, Nat.reduceEqDiff, Nat.reduceAdd, Nat.reduceLT, Nat.reduceLeDiff, reduceIte, and_self, decide_true, decide_false, beq_self_eq_true, Bool.not_true, Bool.not_false, decide_true, decide_false, true_and, and_true, *] | (refine Cs_of (fun _ => ?_) (fun _ => ?_)))
  refine WL_inv (α := Nat × List Mk) (fun a e m => m = ⟨[], []⟩ ∧ e 0 = .sl (l.map encM) .unk ∧ e 1 = f ∧ e 7 = I64 l.length ∧ e 8 = I64 a.1 ∧ l.drop a.1 = a.2 ∧ a.1 ≤ l.length ∧ idxFrom p a.2 a.1 = idxFrom p l 0) (fun a => l.length - a.1) (0, l) ?_ ?_
  · simp only [go_sem, Nat.reduceEqDiff, Nat.reduceAdd, Nat.reduceLT, Nat.reduceLeDiff, reduceIte, and_self, decide_true, decide_false, beq_self_eq_true]
    simp
  · rintro ⟨k, r⟩ e m ⟨rfl, h0, h1, h7, h8, hd, hk, hx⟩
    dsimp only at h8 hd hk hx
    rcases r with _ | ⟨x, r⟩
    · have hk' := drop_nil hd
      simp only [go_sem, Nat.reduceEqDiff, Nat.reduceAdd, Nat.reduceLT, Nat.reduceLeDiff, reduceIte, and_self, decide_true, decide_false, beq_self_eq_true, h7, h8, dec_ge hk']
      rw [← hx]; rfl
    · obtain ⟨hg, hd', hlt⟩ := drop_cons hd
      simp only [go_sem, Nat.reduceEqDiff, Nat.reduceAdd, Nat.reduceLT, Nat.reduceLeDiff, reduceIte, and_self, decide_true, decide_false, beq_self_eq_true, h0, h1, h7, h8, dec_lt hlt, dec_nn, Int.toNat_natCast, List.getElem?_map, hg, hf x]
      refine Cs_of (fun hp => ?_) fun hp => ?_
      · simp only [go_sem, Nat.reduceEqDiff, Nat.reduceAdd, Nat.reduceLT, Nat.reduceLeDiff, reduceIte, and_self, decide_true, decide_false, beq_self_eq_true]
        simp only [idxFrom, hp, if_true] at hx
        rw [← hx]
      · simp only [go_sem, Nat.reduceEqDiff, Nat.reduceAdd, Nat.reduceLT, Nat.reduceLeDiff, reduceIte, and_self, decide_true, decide_false, beq_self_eq_true, h8]
        refine Nx_of (k + 1, r) (by simp; omega) ?_
        simp only [go_sem, Nat.reduceEqDiff, Nat.reduceAdd, Nat.reduceLT, Nat.reduceLeDiff, reduceIte, and_self, decide_true, decide_false, beq_self_eq_true, h0, h1, h7]
        simp only [idxFrom, hp] at hx
        refine ⟨trivial, trivial, trivial, trivial, ?_, hd', by omega, by simpa using hx⟩
        rw [wrap_i64 _ (by omega) (by omega)]; norm_cast
theorem idxFrom_any {α : Type} (p : α → Bool) : ∀ (l : List α) (k : Nat), decide (0 ≤ idxFrom p l k) = l.any p
  | [], k => by simp [idxFrom]
  | x :: r, k => by
    by_cases h : p x
    · simp [idxFrom, h]
    · simp [idxFrom, h, idxFrom_any p r (k + 1)]
theorem containsFunc_ok (l : List Mk) (f : AV) (p : Mk → Bool) (hf : IsP ft encM f fun m => .bool (p m)) (hs : ∀ m, snap m 9 f = f) (hl : l.length < 1000000) : RV ft 58 [.sl (l.map encM) .unk, f] (.bool (l.any p)) := by
  refine RV_of ft58 rfl ?_
  simp only [c58, r58]
  simp only [go_sem, Nat.reduceEqDiff, Nat.reduceAdd, Nat.reduceLT, Nat.reduceLeDiff, reduceIte, and_self, decide_true, decide_false, beq_self_eq_true, WB85, sn_ms, hs, WVH_eq (indexFunc_ok l f p hf hl), idxFrom_any, true_and]
/-- A reel's first error. -/
def checkR (r : Rl) : Int :=
  if (decide (r.feet < 1) || decide (16 < r.feet)) || decide (10 < (r.marks.length : Int)) then 10
  else if r.marks.any (fun m => !described m r.feet) then 11 else 0
theorem Check_ok (r : Rl) (hl : r.marks.length < 1000000) : RV ft 21 [encR r] (I64 (checkR r)) := by
  refine RV_of ft21 rfl ?_
  simp only [c21, r21]
  repeat' (first | simp only [go_sem, Nat.reduceEqDiff, Nat.reduceAdd, Nat.reduceLT, Nat.reduceLeDiff, reduceIte, and_self, decide_true, decide_false, beq_self_eq_true, Bool.not_true, Bool.not_false, decide_true, decide_false, true_and, and_true, WB58, sn_ms, List.length_map, WVH_eq (containsFunc_ok r.marks _ _ (strange_p r) (fun m => by simp only [go_sem, sn_ms]) hl), *] | (refine Cs_of (fun _ => ?_) (fun _ => ?_)))
  all_goals simp [checkR, *]
end Go.Ab.T
end

section
namespace Go.Ab.T
set_option maxRecDepth 8000
set_option linter.unusedSimpArgs false
/-! ### Bits -/
def tz : Nat → Nat → Nat
  | 0, _ => 0
  | n + 1, x => if x % 2 = 1 then 0 else 1 + tz n (x / 2)
theorem tz_spec : ∀ (n x : Nat), x ≠ 0 → x < 2 ^ n → tz n x < n ∧ ∃ q, x = 2 ^ tz n x * (2 * q + 1)
  | 0, x, h, h' => by simp at h'; omega
  | n + 1, x, h, h' => by
    unfold tz
    by_cases hx : x % 2 = 1
    · simp only [hx, if_true]; exact ⟨by omega, x / 2, by omega⟩
    · simp only [hx, if_false]
      obtain ⟨h1, q, h2⟩ := tz_spec n (x / 2) (by omega) (by rw [Nat.pow_succ] at h'; omega)
      refine ⟨by omega, q, ?_⟩
      rw [show 1 + tz n (x / 2) = tz n (x / 2) + 1 by omega, Nat.pow_succ, Nat.mul_right_comm]
      omega
theorem low_bit (n k q : Nat) (hk : k < n) (hx : 2 ^ k * (2 * q + 1) < 2 ^ n) : (2 ^ k * (2 * q + 1)) &&& (2 ^ n - 2 ^ k * (2 * q + 1)) = 2 ^ k := by
  have hp : 0 < 2 ^ k := Nat.two_pow_pos k
  have e : 2 ^ k * (2 * q + 1) = 2 ^ k * (2 * q) + 2 ^ k := by rw [Nat.mul_add, Nat.mul_one]
  have e2 : 2 ^ n - 2 ^ k * (2 * q + 1) = 2 ^ n - ((2 ^ k * (2 * q) + (2 ^ k - 1)) + 1) := by rw [e]; congr 1; omega
  apply Nat.eq_of_testBit_eq
  intro i
  rw [Nat.testBit_and, e2, Nat.testBit_two_pow_sub_succ (by rw [e] at hx; omega)]
  rw [Nat.testBit_two_pow_mul_add _ (by omega : 2 ^ k - 1 < 2 ^ k)]
  rw [Nat.testBit_two_pow_mul, Nat.testBit_two_pow, Nat.testBit_two_pow_sub_one]
  by_cases h1 : i < k
  · simp [h1, show ¬ k ≤ i by omega, show ¬ k = i by omega]
  · by_cases h2 : i = k
    · subst h2; simp [hk, Nat.testBit_zero]
    · simp only [show k ≤ i by omega, h1, show ¬ k = i by omega]
      obtain ⟨j, rfl⟩ : ∃ j, i = k + (j + 1) := ⟨i - k - 1, by omega⟩
      simp [Nat.testBit_succ, show k + (j + 1) - k = j + 1 by omega]
      intro a b
      simpa [show (2 * q + 1) / 2 = q by omega] using a
def tab1N : List Nat := [0, 1, 28, 2, 29, 14, 24, 3, 30, 22, 20, 15, 25, 17, 4, 8, 31, 27, 13, 23, 21, 19, 16, 7, 26, 12, 18, 6, 11, 5, 10, 9]
def tab0N : List Nat := [0, 1, 56, 2, 57, 49, 28, 3, 61, 58, 42, 50, 38, 29, 17, 4, 62, 47, 59, 36, 45, 43, 51, 22, 53, 39, 33, 30, 24, 18, 12, 5, 63, 55, 48, 27, 60, 41, 37, 16, 46, 35, 44, 21, 52, 32, 23, 11, 54, 26, 40, 15, 34, 20, 31, 10, 25, 14, 19, 9, 13, 8, 7, 6]
theorem tab1_eq : tab1 = .agg (tab1N.map fun (n : Nat) => .int .u8 (n : Int)) := rfl
theorem tab0_eq : tab0 = .agg (tab0N.map fun (n : Nat) => .int .u8 (n : Int)) := rfl
theorem tab1_ok : ∀ k, k < 16 → tab1N[(2 ^ k * 125613361 % 4294967296) / 2 ^ 27]? = some k := by decide +kernel
theorem tab0_ok : ∀ k, k < 64 → tab0N[(2 ^ k * 285870213051353865 % 18446744073709551616) / 2 ^ 58]? = some k := by decide +kernel
abbrev U16 (n : Nat) : AV := .int .u16 (n : Int)
abbrev U64 (n : Nat) : AV := .int .u64 (n : Int)
theorem wrap_u32_nat (n : Nat) : IntKind.u32.wrap (n : Int) = ((n % 4294967296 : Nat) : Int) := by
  simp only [IntKind.wrap, IntKind.bits, IntKind.signed, Bool.false_and, Bool.false_eq_true, if_false, Int.reducePow]; omega
theorem wrap_u64_nat (n : Nat) : IntKind.u64.wrap (n : Int) = ((n % 18446744073709551616 : Nat) : Int) := by
  simp only [IntKind.wrap, IntKind.bits, IntKind.signed, Bool.false_and, Bool.false_eq_true, if_false, Int.reducePow]; omega
theorem wrap_u16_nat (n : Nat) : IntKind.u16.wrap (n : Int) = ((n % 65536 : Nat) : Int) := by
  simp only [IntKind.wrap, IntKind.bits, IntKind.signed, Bool.false_and, Bool.false_eq_true, if_false, Int.reducePow]; omega
theorem wrap_u16_neg (n : Nat) (h : n ≠ 0) (h' : n < 65536) : IntKind.u16.wrap (0 - (n : Int)) = ((65536 - n : Nat) : Int) := by
  simp only [IntKind.wrap, IntKind.bits, IntKind.signed, Bool.false_and, Bool.false_eq_true, if_false, Int.reducePow]; omega
theorem wrap_u64_neg (n : Nat) (h : n ≠ 0) (h' : n < 18446744073709551616) : IntKind.u64.wrap (0 - (n : Int)) = ((18446744073709551616 - n : Nat) : Int) := by
  simp only [IntKind.wrap, IntKind.bits, IntKind.signed, Bool.false_and, Bool.false_eq_true, if_false, Int.reducePow]; omega
theorem tz16_ok (x : Nat) (h : x < 65536) : RV ft 96 [U16 x] (I64 (tz 16 x : Nat)) := by
  refine RV_of ft96 rfl ?_
  simp only [c96, r96]
  simp only [go_sem, Nat.reduceEqDiff, Nat.reduceAdd, Nat.reduceLT, Nat.reduceLeDiff, reduceIte, and_self, decide_true, decide_false, beq_self_eq_true, U16]
  by_cases hx : x = 0
  · subst hx
    simp only [go_sem, Nat.reduceEqDiff, Nat.reduceAdd, Nat.reduceLT, Nat.reduceLeDiff, reduceIte, and_self, decide_true, decide_false, beq_self_eq_true, show (((0 : Nat) : Int) == 0) = true from rfl]
    rfl
  · have h0 : (((x : Nat) : Int) == 0) = false := by simpa using hx
    obtain ⟨h1, q, h2⟩ := tz_spec 16 x hx (by simpa using h)
    generalize hk : tz 16 x = k at *
    have h3 := low_bit 16 k q h1 (by rw [← h2]; simpa using h)
    rw [← h2] at h3
    have h4 : (2 : Nat) ^ k < 65536 := by have := Nat.pow_lt_pow_right (a := 2) (by omega) h1; simpa using this
    have h5 : andI .u16 (x : Int) ((65536 - x : Nat) : Int) = ((2 ^ k : Nat) : Int) := by
      rw [andI_u16 _ _ h (by omega)]; exact_mod_cast h3
    have h6 := tab1_ok k h1
    simp only [go_sem, Nat.reduceEqDiff, Nat.reduceAdd, Nat.reduceLT, Nat.reduceLeDiff, reduceIte, and_self, decide_true, decide_false, beq_self_eq_true, h0, wrap_u16_neg x hx h, h5]
    rw [wrap_u32_nat, Nat.mod_eq_of_lt (by omega : 2 ^ k < 4294967296)]
    rw [show ((2 ^ k : Nat) : Int) * 125613361 = ((2 ^ k * 125613361 : Nat) : Int) from (Int.natCast_mul _ _).symm, wrap_u32_nat]
    generalize hi : 2 ^ k * 125613361 % 4294967296 / 2 ^ 27 = i at h6
    have hi32 : i < 32 := by
      have := List.getElem?_eq_some_iff.1 h6
      obtain ⟨h7, _⟩ := this
      exact h7
    have h8 : ∀ m, aidxAt m (.pv tab1 0) (.int .u32 (i : Int)) 32 1 = some (.pv tab1 i) := by
      intro m
      rw [aidxAt_pv, if_pos (by omega), Int.toNat_natCast, Nat.zero_add, Nat.mul_one]
    have h9 : ∀ m, loadAt m (.pv tab1 i) none = some (.int .u8 (k : Int)) := by
      intro m
      rw [loadAt_pv, tab1_eq, cells_agg, readCells_none, List.getElem?_map, h6]; rfl
    simp only [go_sem, Nat.reduceEqDiff, Nat.reduceAdd, Nat.reduceLT, Nat.reduceLeDiff, reduceIte, and_self, decide_true, decide_false, beq_self_eq_true, show decide ((27 : Int) < 0) = false from rfl, IntKind.bits, show (min (Int.toNat 27) 32) = 27 from rfl, shr_nat, Nat.shiftRight_eq_div_pow, hi, h8, h9]
    rw [wrap_i64 _ (by omega) (by omega)]
theorem tz64_ok (x : Nat) (h : x < 18446744073709551616) : RV ft 95 [U64 x] (I64 (tz 64 x : Nat)) := by
  refine RV_of ft95 rfl ?_
  simp only [c95, r95]
  simp only [go_sem, Nat.reduceEqDiff, Nat.reduceAdd, Nat.reduceLT, Nat.reduceLeDiff, reduceIte, and_self, decide_true, decide_false, beq_self_eq_true, U64]
  by_cases hx : x = 0
  · subst hx
    simp only [go_sem, Nat.reduceEqDiff, Nat.reduceAdd, Nat.reduceLT, Nat.reduceLeDiff, reduceIte, and_self, decide_true, decide_false, beq_self_eq_true, show (((0 : Nat) : Int) == 0) = true from rfl]
    rfl
  · have h0 : (((x : Nat) : Int) == 0) = false := by simpa using hx
    obtain ⟨h1, q, h2⟩ := tz_spec 64 x hx (by simpa using h)
    generalize hk : tz 64 x = k at *
    have h3 := low_bit 64 k q h1 (by rw [← h2]; simpa using h)
    rw [← h2] at h3
    have h4 : (2 : Nat) ^ k < 18446744073709551616 := by have := Nat.pow_lt_pow_right (a := 2) (by omega) h1; simpa using this
    have h5 : andI .u64 (x : Int) ((18446744073709551616 - x : Nat) : Int) = ((2 ^ k : Nat) : Int) := by
      rw [andI_u64 _ _ h (by omega)]; exact_mod_cast h3
    have h6 := tab0_ok k h1
    simp only [go_sem, Nat.reduceEqDiff, Nat.reduceAdd, Nat.reduceLT, Nat.reduceLeDiff, reduceIte, and_self, decide_true, decide_false, beq_self_eq_true, h0, wrap_u64_neg x hx h, h5]
    rw [show ((2 ^ k : Nat) : Int) * 285870213051353865 = ((2 ^ k * 285870213051353865 : Nat) : Int) from (Int.natCast_mul _ _).symm, wrap_u64_nat]
    generalize hi : 2 ^ k * 285870213051353865 % 18446744073709551616 / 2 ^ 58 = i at h6
    have hi64 : i < 64 := by
      have := List.getElem?_eq_some_iff.1 h6
      obtain ⟨h7, _⟩ := this
      exact h7
    have h8 : ∀ m, aidxAt m (.pv tab0 0) (.int .u64 (i : Int)) 64 1 = some (.pv tab0 i) := by
      intro m
      rw [aidxAt_pv, if_pos (by omega), Int.toNat_natCast, Nat.zero_add, Nat.mul_one]
    have h9 : ∀ m, loadAt m (.pv tab0 i) none = some (.int .u8 (k : Int)) := by
      intro m
      rw [loadAt_pv, tab0_eq, cells_agg, readCells_none, List.getElem?_map, h6]; rfl
    simp only [go_sem, Nat.reduceEqDiff, Nat.reduceAdd, Nat.reduceLT, Nat.reduceLeDiff, reduceIte, and_self, decide_true, decide_false, beq_self_eq_true, show decide ((58 : Int) < 0) = false from rfl, IntKind.bits, show (min (Int.toNat 58) 64) = 58 from rfl, shr_nat, Nat.shiftRight_eq_div_pow, hi, h8, h9]
    rw [wrap_i64 _ (by omega) (by omega)]

/-- How many of the first n bits are 1. -/
def popc : Nat → Nat → Nat
  | 0, _ => 0
  | n + 1, x => x % 2 + popc n (x / 2)
theorem popc_split : ∀ (n m x : Nat), popc (n + m) x = popc n x + popc m (x / 2 ^ n)
  | 0, m, x => by simp [popc]
  | n + 1, m, x => by
    rw [show n + 1 + m = (n + m) + 1 by omega]
    simp only [popc]
    rw [popc_split n m (x / 2), Nat.div_div_eq_div_mul, Nat.pow_succ, Nat.mul_comm 2]
    omega
theorem popc_mod : ∀ (n x : Nat), popc n (x % 2 ^ n) = popc n x
  | 0, x => rfl
  | n + 1, x => by
    simp only [popc]
    have h1 : x % 2 ^ (n + 1) % 2 = x % 2 := by rw [Nat.pow_succ, Nat.mul_comm, Nat.mod_mul_right_mod]
    have h2 : x % 2 ^ (n + 1) / 2 = (x / 2) % 2 ^ n := by
      rw [Nat.pow_succ, Nat.mul_comm, Nat.mod_mul_right_div_self]
    rw [h1, h2, popc_mod n (x / 2)]
def popS : ByteArray := ⟨#[0,1,1,2,1,2,2,3,1,2,2,3,2,3,3,4,1,2,2,3,2,3,3,4,2,3,3,4,3,4,4,5,1,2,2,3,2,3,3,4,2,3,3,4,3,4,4,5,2,3,3,4,3,4,4,5,3,4,4,5,4,5,5,6,1,2,2,3,2,3,3,4,2,3,3,4,3,4,4,5,2,3,3,4,3,4,4,5,3,4,4,5,4,5,5,6,2,3,3,4,3,4,4,5,3,4,4,5,4,5,5,6,3,4,4,5,4,5,5,6,4,5,5,6,5,6,6,7,1,2,2,3,2,3,3,4,2,3,3,4,3,4,4,5,2,3,3,4,3,4,4,5,3,4,4,5,4,5,5,6,2,3,3,4,3,4,4,5,3,4,4,5,4,5,5,6,3,4,4,5,4,5,5,6,4,5,5,6,5,6,6,7,2,3,3,4,3,4,4,5,3,4,4,5,4,5,5,6,3,4,4,5,4,5,5,6,4,5,5,6,5,6,6,7,3,4,4,5,4,5,5,6,4,5,5,6,5,6,6,7,4,5,5,6,5,6,6,7,5,6,6,7,6,7,7,8]⟩
theorem popS_all : (List.range 256).all (fun i => ((popS[i]?).map fun (c : UInt8) => c.toNat) == some (popc 8 i)) = true := by decide +kernel
theorem popS_ok (i : Nat) (h : i < 256) : (popS[i]?).map (fun (c : UInt8) => AV.int .u8 (c.toNat : Int)) = some (.int .u8 (popc 8 i : Nat)) := by
  have h1 := List.all_eq_true.1 popS_all i (List.mem_range.2 h)
  have h2 : ((popS[i]?).map fun (c : UInt8) => c.toNat) = some (popc 8 i) := by simpa using h1
  cases h3 : popS[i]? with
  | none => rw [h3] at h2; cases h2
  | some c => rw [h3] at h2; simp only [Option.map_some, Option.some.injEq] at h2 ⊢; rw [h2]
theorem popc_le : ∀ n x, popc n x ≤ n
  | 0, _ => Nat.le_refl 0
  | n + 1, x => by have := popc_le n (x / 2); simp only [popc]; omega
theorem popN_ok (x : Nat) (h : x < 65536) : RV ft 86 [U16 x] (I64 (popc 16 x : Nat)) := by
  refine RV_of ft86 rfl ?_
  have e : c86 = (.seq (.region [⟨(some 2), none, .mov (.c (.int .i64 0))⟩])
      (.seq (.region [⟨(some 3), none, .mov (.t 0)⟩,
        ⟨(some 4), none, .bin .shr (.t 3) (.c (.int .u64 8))⟩,
        ⟨(some 5), none, .sidx (.c (.str popS)) (.t 4)⟩,
        ⟨(some 6), none, .mov (.t 0)⟩,
        ⟨(some 7), none, .bin .and (.t 6) (.c (.int .u16 255))⟩,
        ⟨(some 8), none, .sidx (.c (.str popS)) (.t 7)⟩,
        ⟨(some 9), none, .bin .add (.t 5) (.t 8)⟩,
        ⟨(some 10), none, .conv .i64 (.t 9)⟩,
        ⟨(some 2), none, .mov (.t 10)⟩])
      (.ret))) := rfl
  rw [e]
  have h1 : ∀ i : Nat, i < 256 → sidxAt (.str popS) (.int .u16 (i : Int)) = some (.int .u8 (popc 8 i : Nat)) := by
    intro i hi
    simp only [sidxAt]
    rw [if_pos (by omega), Int.toNat_natCast, popS_ok i hi]
  have h2 : andI .u16 (x : Int) 255 = ((x % 256 : Nat) : Int) := by
    rw [show (255 : Int) = ((255 : Nat) : Int) from rfl, andI_u16 _ _ h (by omega), show 255 = 2 ^ 8 - 1 from rfl, Nat.and_two_pow_sub_one_eq_mod]
  simp only [go_sem, Nat.reduceEqDiff, Nat.reduceAdd, Nat.reduceLT, Nat.reduceLeDiff, reduceIte, and_self, decide_true, decide_false, beq_self_eq_true, r86, show decide ((8 : Int) < 0) = false from rfl, IntKind.bits, show (min (Int.toNat 8) 16) = 8 from rfl, shr_nat, Nat.shiftRight_eq_div_pow, h2, h1 _ (show x / 2 ^ 8 < 256 by omega), h1 _ (show x % 256 < 256 by omega)]
  have h3 := popc_split 8 8 x
  have h4 := popc_mod 8 x
  have h5 := popc_le 8 x
  have h6 := popc_le 8 (x / 2 ^ 8)
  rw [show (2 : Nat) ^ 8 = 256 from rfl] at h3 h4 h6 ⊢
  rw [wrap_u8 _ (by omega) (by omega), wrap_i64 _ (by omega) (by omega), h4, h3]
  congr 1; omega
theorem count_ok (x : Nat) (h : x < 65536) : RV ft 62 [U16 x] (I64 (popc 16 x : Nat)) := by
  refine RV_of ft62 rfl ?_
  simp only [c62, r62]
  simp only [go_sem, Nat.reduceEqDiff, Nat.reduceAdd, Nat.reduceLT, Nat.reduceLeDiff, reduceIte, and_self, decide_true, decide_false, beq_self_eq_true, U16, WB86, WVH_eq (popN_ok x h), true_and]
end Go.Ab.T
end

section
namespace Go.Ab.T
set_option maxRecDepth 8000
set_option linter.unusedSimpArgs false
theorem two_pow_le {a b : Nat} (h : a ≤ b) : (2 : Nat) ^ a ≤ 2 ^ b := Nat.pow_le_pow_right (by omega) h
theorem between_ok (a b : Nat) (ha : a ≤ b + 1) (hb : b < 16) : RV ft 70 [I64 a, I64 b] (U16 (2 ^ (b + 1) - 2 ^ a)) := by
  refine RV_of ft70 rfl ?_
  simp only [c70, r70]
  have h1 : IntKind.i64.wrap ((b : Int) + 1) = ((b + 1 : Nat) : Int) := by rw [wrap_i64 _ (by omega) (by omega)]; rfl
  have h2 : (2 : Nat) ^ (b + 1) ≤ 65536 := two_pow_le (b := 16) (by omega)
  have h3 : (2 : Nat) ^ a ≤ 2 ^ (b + 1) := two_pow_le ha
  have e1 : ((1 : Int) * 2 ^ (min (Int.toNat ((b + 1 : Nat) : Int)) 16)) = ((2 ^ (b + 1) : Nat) : Int) := by
    rw [Int.toNat_natCast, Nat.min_eq_left (by omega)]; simp
  have e2 : ((1 : Int) * 2 ^ (min (Int.toNat (a : Int)) 16)) = ((2 ^ a : Nat) : Int) := by
    rw [Int.toNat_natCast, Nat.min_eq_left (by omega)]; simp
  simp only [go_sem, Nat.reduceEqDiff, Nat.reduceAdd, Nat.reduceLT, Nat.reduceLeDiff, reduceIte, and_self, decide_true, decide_false, beq_self_eq_true, h1, decide_eq_false (show ¬ ((b + 1 : Nat) : Int) < 0 by omega), decide_eq_false (show ¬ (a : Int) < 0 by omega), e1, e2, wrap_u16_nat]
  rw [show IntKind.u16.wrap (((2 ^ (b + 1) % 65536 : Nat) : Int) - ((2 ^ a % 65536 : Nat) : Int)) = ((2 ^ (b + 1) - 2 ^ a : Nat) : Int) from ?_]
  have h4 : (2 : Nat) ^ a > 0 := Nat.two_pow_pos a
  simp only [IntKind.wrap, IntKind.bits, IntKind.signed, Bool.false_and, Bool.false_eq_true, if_false, Int.reducePow]
  by_cases h5 : (2 : Nat) ^ (b + 1) = 65536
  · by_cases h6 : (2 : Nat) ^ a = 65536
    · rw [h5, h6]; decide
    · rw [h5, Nat.mod_eq_of_lt (by omega : 2 ^ a < 65536)]; omega
  · rw [Nat.mod_eq_of_lt (by omega : 2 ^ a < 65536), Nat.mod_eq_of_lt (by omega : 2 ^ (b + 1) < 65536)]; omega
theorem allFeet_ok (n : Nat) (h : 1 ≤ n) (h' : n ≤ 16) : RV ft 75 [I64 n] (U16 (2 ^ n - 1)) := by
  refine RV_of ft75 rfl ?_
  simp only [c75, r75]
  have h1 : IntKind.i64.wrap ((n : Int) - 1) = ((n - 1 : Nat) : Int) := by rw [wrap_i64 _ (by omega) (by omega)]; omega
  have h2 : RV ft 70 [I64 0, I64 ((n - 1 : Nat) : Int)] (U16 (2 ^ n - 1)) := by
    have := between_ok 0 (n - 1) (by omega) (by omega)
    rw [show n - 1 + 1 = n by omega] at this
    exact this
  simp only [go_sem, Nat.reduceEqDiff, Nat.reduceAdd, Nat.reduceLT, Nat.reduceLeDiff, reduceIte, and_self, decide_true, decide_false, beq_self_eq_true, h1, WB70, WVH_eq h2, true_and]
def rowsL : Nat → Nat → List Nat
  | 0, _ => []
  | n + 1, f => if f = 0 then [] else tz 16 (65535 - f >>> tz 16 f) :: rowsL n (f >>> tz 16 f >>> tz 16 (65535 - f >>> tz 16 f))
theorem cmpl16 (g : Nat) (h : g < 65536) : cmplI .u16 (g : Int) = ((65535 - g : Nat) : Int) := by
  show IntKind.u16.wrap ((BitVec.ofInt 16 65535 ^^^ BitVec.ofInt 16 (g : Int)).toNat : Int) = _
  have h1 : (BitVec.ofInt 16 65535 ^^^ BitVec.ofInt 16 (g : Int)).toNat = 65535 - g := by
    rw [show BitVec.ofInt 16 65535 = BitVec.allOnes 16 from rfl, BitVec.allOnes_xor, BitVec.toNat_not, BitVec.ofInt_natCast, BitVec.toNat_ofNat, Nat.mod_eq_of_lt (by omega)]
  rw [h1, wrap_u16 _ (by omega) (by omega)]
theorem tz_le : ∀ n x, tz n x ≤ n
  | 0, _ => Nat.le_refl 0
  | n + 1, x => by have := tz_le n (x / 2); unfold tz; split <;> omega
theorem shr16 (x k : Nat) (hk : k ≤ 16) : Int.fdiv (x : Int) (2 ^ (min (Int.toNat (k : Int)) 16)) = ((x >>> k : Nat) : Int) := by
  rw [Int.toNat_natCast, Nat.min_eq_left (by omega), shr_nat]
theorem shr_lt (x k n : Nat) (h : x < n) : x >>> k < n := by
  rw [Nat.shiftRight_eq_div_pow]; exact Nat.lt_of_le_of_lt (Nat.div_le_self _ _) h
/-- Each round takes a foot at least. -/
theorem rows_less (n f : Nat) (h0 : f ≠ 0) (h : f < 2 ^ (n + 1)) (h' : f < 65536) : f >>> tz 16 f >>> tz 16 (65535 - f >>> tz 16 f) < 2 ^ n := by
  obtain ⟨h1, q, h2⟩ := tz_spec 16 f h0 (by simpa using h')
  generalize tz 16 f = k at *
  have h3 : f >>> k = 2 * q + 1 := by
    rw [Nat.shiftRight_eq_div_pow, h2, Nat.mul_div_cancel_left _ (Nat.two_pow_pos k)]
  have h4 : f >>> k ≤ f := by rw [Nat.shiftRight_eq_div_pow]; exact Nat.div_le_self _ _
  have h5 : 1 ≤ tz 16 (65535 - f >>> k) := by
    rw [h3]; unfold tz
    rw [if_neg (by omega)]; omega
  rw [Nat.shiftRight_eq_div_pow (f >>> k)]
  have h6 : (2 : Nat) ^ 1 ≤ 2 ^ tz 16 (65535 - f >>> k) := two_pow_le h5
  rw [Nat.div_lt_iff_lt_mul (Nat.two_pow_pos _)]
  rw [Nat.pow_succ] at h
  calc f >>> k ≤ f := h4
    _ < 2 ^ n * 2 := h
    _ ≤ _ := Nat.mul_le_mul_left _ (by simpa using h6)
theorem rows_prod {id : Nat} {J : List Nat → Mem → Prop} (hy : ∀ x xs m K', x ≤ 16 → J (x :: xs) m → (∀ m', J xs m' → K' (.bool true) m') → WR ft (.y id) [I64 x] m K')
    (f : Nat) (hf : f < 65536) (m : Mem) (h0 : J (rowsL 16 f) m) (K : AV → Mem → Prop) (hK : ∀ m, J [] m → K (.tup []) m) : WR ft (.f 87) [U16 f, .yld id] m K := by
  rw [WR_f ft87 rfl]
  simp only [c87, r87]
  simp only [go_sem, Nat.reduceEqDiff, Nat.reduceAdd, Nat.reduceLT, Nat.reduceLeDiff, reduceIte, and_self, decide_true, decide_false, beq_self_eq_true]
  refine WL_inv (α := Nat × Nat) (fun a e m => e 0 = U16 a.1 ∧ e 1 = .yld id ∧ a.1 < 65536 ∧ a.1 < 2 ^ a.2 ∧ J (rowsL a.2 a.1) m) (fun a => a.2) (f, 16) ?_ ?_
  · simp only [go_sem, Nat.reduceEqDiff, Nat.reduceAdd, Nat.reduceLT, Nat.reduceLeDiff, reduceIte, and_self, decide_true, decide_false, beq_self_eq_true]
    exact ⟨trivial, trivial, hf, by simpa using hf, h0⟩
  · rintro ⟨f, n⟩ e m ⟨h1, h2, h3, h4, h5⟩
    dsimp only at h1 h3 h4 h5
    simp only [go_sem, Nat.reduceEqDiff, Nat.reduceAdd, Nat.reduceLT, Nat.reduceLeDiff, reduceIte, and_self, decide_true, decide_false, beq_self_eq_true, h1, h2]
    refine Cs_of (fun hc => ?_) fun hc => ?_
    · have hf0 : f ≠ 0 := by simpa using hc
      cases n with
      | zero => simp at h4; omega
      | succ n =>
        simp only [rowsL, hf0, if_false] at h5
        have h6 := shr_lt f (tz 16 f) _ h3
        have h7 := rows_less n f hf0 h4 h3
        simp only [go_sem, Nat.reduceEqDiff, Nat.reduceAdd, Nat.reduceLT, Nat.reduceLeDiff, reduceIte, and_self, decide_true, decide_false, beq_self_eq_true, h1, h2, WB96, WVH_eq (tz16_ok f h3), true_and, decide_eq_false (show ¬ ((tz 16 f : Nat) : Int) < 0 by omega), shr16 f _ (tz_le 16 f), cmpl16 _ h6, WVH_eq (tz16_ok (65535 - f >>> tz 16 f) (Nat.lt_of_le_of_lt (Nat.sub_le _ _) (by decide)))]
        refine hy _ _ _ _ (tz_le 16 _) h5 fun m' hj => ?_
        simp only [go_sem, Nat.reduceEqDiff, Nat.reduceAdd, Nat.reduceLT, Nat.reduceLeDiff, reduceIte, and_self, decide_true, decide_false, beq_self_eq_true, h1, h2, decide_eq_false (show ¬ ((tz 16 (65535 - f >>> tz 16 f) : Nat) : Int) < 0 by omega), shr16 _ _ (tz_le 16 _)]
        refine Nx_of (f >>> tz 16 f >>> tz 16 (65535 - f >>> tz 16 f), n) (Nat.lt_succ_self n) ?_
        simp only [go_sem, Nat.reduceEqDiff, Nat.reduceAdd, Nat.reduceLT, Nat.reduceLeDiff, reduceIte, and_self, decide_true, decide_false, beq_self_eq_true, h1, h2]
        exact ⟨trivial, trivial, by have := shr_lt _ (tz 16 (65535 - f >>> tz 16 f)) _ h6; exact this, h7, hj⟩
    · have hf0 : f = 0 := by simpa using hc
      subst hf0
      simp only [go_sem, Nat.reduceEqDiff, Nat.reduceAdd, Nat.reduceLT, Nat.reduceLeDiff, reduceIte, and_self, decide_true, decide_false, beq_self_eq_true]
      refine hK _ ?_
      cases n <;> simpa [rowsL] using h5
theorem rowsL_len : ∀ n f, (rowsL n f).length ≤ n
  | 0, _ => Nat.le_refl 0
  | n + 1, f => by
    unfold rowsL
    split
    · simp
    · have := rowsL_len n (f >>> tz 16 f >>> tz 16 (65535 - f >>> tz 16 f)); simp; omega
theorem rowsL_le : ∀ n f x, x ∈ rowsL n f → x ≤ 16
  | 0, _, _, h => by simp [rowsL] at h
  | n + 1, f, x, h => by
    unfold rowsL at h
    split at h
    · simp at h
    · rcases List.mem_cons.1 h with rfl | h
      · exact tz_le 16 _
      · exact rowsL_le n _ x h
/-- Splices of a set of feet. -/
def splicesL (f : Nat) : Nat := (rowsL 16 f).length - 1
theorem splices_ok (f : Nat) (h : f < 65536) : RV ft 64 [U16 f] (I64 (splicesL f : Nat)) := by
  refine RV_of ft64 rfl ?_
  simp only [c64, r64]
  have hlen := rowsL_len 16 f
  simp only [go_sem, Nat.reduceEqDiff, Nat.reduceAdd, Nat.reduceLT, Nat.reduceLeDiff, reduceIte, and_self, decide_true, decide_false, beq_self_eq_true]
  refine WL_range_of (g := 87) (first := [U16 f]) (cap := []) ?_ ?_
  · rfl
  simp only [go_sem, Nat.reduceEqDiff, Nat.reduceAdd, Nat.reduceLT, Nat.reduceLeDiff, reduceIte, and_self, decide_true, decide_false, beq_self_eq_true]
  refine rows_prod (J := fun xs m => ∃ n : Nat, ∃ env, ∃ body, body = (ACode.block 1 (.region [⟨(some 7), none, .load (.t 3) none⟩,
    ⟨(some 8), none, .bin .add (.t 7) (.c (.int .i64 1))⟩,
    ⟨none, none, .store (.t 3) (.t 8) 1⟩])) ∧ env 3 = .ptr 0 0 0 ∧ m = ⟨[.live [I64 n] 1, .lp env [6] .skip body true none], []⟩ ∧ n + xs.length = (rowsL 16 f).length) ?_ f h _ ⟨0, _, _, rfl, ?_, rfl, by simp⟩ _ ?_
  · rintro x xs m K' hx ⟨n, env, body, rfl, he, rfl, hn⟩ hk
    refine WR_yld (ft := ft) rfl rfl ?_
    simp only [go_sem, Nat.reduceEqDiff, Nat.reduceAdd, Nat.reduceLT, Nat.reduceLeDiff, reduceIte, and_self, decide_true, decide_false, beq_self_eq_true, puts]
    refine YBegin_lp (ft := ft) rfl ?_
    simp only [go_sem, Nat.reduceEqDiff, Nat.reduceAdd, Nat.reduceLT, Nat.reduceLeDiff, reduceIte, and_self, decide_true, decide_false, beq_self_eq_true, upd_ne _ _ _ _ (show ((3 : Nat) = 6) = False by simp), he]
    refine YEnd_lp rfl ?_
    refine hk _ ⟨n + 1, _, _, rfl, he, ?_, by simp at hn; omega⟩
    simp only [go_sem, Nat.reduceEqDiff, Nat.reduceAdd, Nat.reduceLT, Nat.reduceLeDiff, reduceIte, and_self, decide_true, decide_false, beq_self_eq_true]
    simp at hn
    rw [wrap_i64 _ (by omega) (by omega)]
    rfl
  · simp only [go_sem, Nat.reduceEqDiff, Nat.reduceAdd, Nat.reduceLT, Nat.reduceLeDiff, reduceIte, and_self, decide_true, decide_false, beq_self_eq_true]
  · rintro m ⟨n, env, body, rfl, he, rfl, hn⟩
    refine RgEnd_lp rfl ?_
    simp at hn
    simp only [go_sem, Nat.reduceEqDiff, Nat.reduceAdd, Nat.reduceLT, Nat.reduceLeDiff, reduceIte, and_self, decide_true, decide_false, beq_self_eq_true, splicesL]
    rw [wrap_i64 _ (by omega) (by omega), hn]
    congr 1; omega
/-- The longest row of a set of feet. -/
def longestL (f : Nat) : Nat := (rowsL 16 f).foldl max 0
theorem longest_ok (f : Nat) (h : f < 65536) : RV ft 67 [U16 f] (I64 (longestL f : Nat)) := by
  refine RV_of ft67 rfl ?_
  simp only [c67, r67]
  simp only [go_sem, Nat.reduceEqDiff, Nat.reduceAdd, Nat.reduceLT, Nat.reduceLeDiff, reduceIte, and_self, decide_true, decide_false, beq_self_eq_true]
  refine WL_range_of (g := 87) (first := [U16 f]) (cap := []) ?_ ?_
  · rfl
  simp only [go_sem, Nat.reduceEqDiff, Nat.reduceAdd, Nat.reduceLT, Nat.reduceLeDiff, reduceIte, and_self, decide_true, decide_false, beq_self_eq_true]
  refine rows_prod (J := fun xs m => ∃ n : Nat, ∃ env, ∃ body, body = (ACode.block 1 (.region [⟨(some 8), none, .load (.t 3) none⟩,
    ⟨(some 9), none, .mov (.t 4)⟩,
    ⟨(some 10), none, .mnx true (.t 8) (.t 9)⟩,
    ⟨none, none, .store (.t 3) (.t 10) 1⟩])) ∧ env 3 = .ptr 0 0 0 ∧ m = ⟨[.live [I64 n] 1, .lp env [7] (.region [⟨(some 4), none, .mov (.t 7)⟩]) body true none], []⟩ ∧ xs.foldl max n = longestL f) ?_ f h _ ⟨0, _, _, rfl, ?_, rfl, rfl⟩ _ ?_
  · rintro x xs m K' hx ⟨n, env, body, rfl, he, rfl, hn⟩ hk
    refine WR_yld (ft := ft) rfl rfl ?_
    simp only [go_sem, Nat.reduceEqDiff, Nat.reduceAdd, Nat.reduceLT, Nat.reduceLeDiff, reduceIte, and_self, decide_true, decide_false, beq_self_eq_true, puts]
    refine YBegin_lp (ft := ft) rfl ?_
    simp only [go_sem, Nat.reduceEqDiff, Nat.reduceAdd, Nat.reduceLT, Nat.reduceLeDiff, reduceIte, and_self, decide_true, decide_false, beq_self_eq_true, upd_ne _ _ _ _ (show ((3 : Nat) = 7) = False by simp), upd_ne _ _ _ _ (show ((3 : Nat) = 4) = False by simp), he]
    refine YEnd_lp rfl ?_
    refine hk _ ⟨max n x, _, _, rfl, he, ?_, by simpa using hn⟩
    simp only [go_sem, Nat.reduceEqDiff, Nat.reduceAdd, Nat.reduceLT, Nat.reduceLeDiff, reduceIte, and_self, decide_true, decide_false, beq_self_eq_true]
    rw [show max (n : Int) (x : Int) = ((max n x : Nat) : Int) by omega]
  · simp only [go_sem, Nat.reduceEqDiff, Nat.reduceAdd, Nat.reduceLT, Nat.reduceLeDiff, reduceIte, and_self, decide_true, decide_false, beq_self_eq_true]
  · rintro m ⟨n, env, body, rfl, he, rfl, hn⟩
    refine RgEnd_lp rfl ?_
    simp only [go_sem, Nat.reduceEqDiff, Nat.reduceAdd, Nat.reduceLT, Nat.reduceLeDiff, reduceIte, and_self, decide_true, decide_false, beq_self_eq_true, ← hn]
    rfl
end Go.Ab.T
end

section
namespace Go.Ab.T
set_option maxRecDepth 8000
set_option linter.unusedSimpArgs false
theorem holds_ok (a b n : Int) : RV ft 101 [.agg [I64 a, I64 b], I64 n] (.bool (decide (a ≤ n) && decide (n ≤ b))) := by
  refine RV_of ft101 rfl ?_
  simp only [c101, r101]
  repeat' (first | simp only [go_sem, Nat.reduceEqDiff, Nat.reduceAdd, Nat.reduceLT, Nat.reduceLeDiff, reduceIte, and_self, decide_true, decide_false, beq_self_eq_true, Bool.not_true, Bool.not_false, decide_true, decide_false, true_and, and_true, *] | (refine Cs_of (fun _ => ?_) (fun _ => ?_)))
/-- The feet that a mark speaks of. -/
def partN (m : Mk) : Nat := 2 ^ (m.to.toNat + 1) - 2 ^ m.fr.toNat
def clo (m : Mk) : AV := if m.kind == 2 then .fn 98 [] [.pv (U16 (partN m)) 0] else if m.kind == 3 then .fn 99 [] [.pv (U16 (partN m)) 0]
  else if m.kind == 4 then .fn 100 [] [.pv (encM m) 0] else .fn 102 [] [.pv (encM m) 0]
/-- A mark that is no tear is true of a set of feet. -/
def claimT (m : Mk) (t : Nat) : Bool := if m.kind == 2 then ((t &&& partN m : Nat) : Int) == (partN m : Int) else if m.kind == 3 then ((t &&& partN m : Nat) : Int) != (partN m : Int)
  else if m.kind == 4 then decide (m.lo ≤ (popc 16 t : Nat)) && decide (((popc 16 t : Nat) : Int) ≤ m.hi) else decide (m.lo ≤ (splicesL t : Nat)) && decide (((splicesL t : Nat) : Int) ≤ m.hi)
def okPart (m : Mk) : Prop := m.kind = 2 ∨ m.kind = 3 → 0 ≤ m.fr ∧ m.fr ≤ m.to ∧ m.to < 16
theorem part_lt (m : Mk) (h : okPart m) (hk : m.kind = 2 ∨ m.kind = 3) : partN m < 65536 := by
  obtain ⟨h1, h2, h3⟩ := h hk
  unfold partN
  have := two_pow_le (a := m.to.toNat + 1) (b := 16) (by omega)
  have := Nat.two_pow_pos m.fr.toNat
  omega
theorem cl98_ok (t p : Nat) (ht : t < 65536) (hp : p < 65536) : RV ft 98 [U16 t, .pv (U16 p) 0] (.bool (((t &&& p : Nat) : Int) == (p : Int))) := by
  refine RV_of ft98 rfl ?_
  simp only [c98, r98]
  simp only [go_sem, Nat.reduceEqDiff, Nat.reduceAdd, Nat.reduceLT, Nat.reduceLeDiff, reduceIte, and_self, decide_true, decide_false, beq_self_eq_true, andI_u16 t p ht hp]
theorem cl99_ok (t p : Nat) (ht : t < 65536) (hp : p < 65536) : RV ft 99 [U16 t, .pv (U16 p) 0] (.bool (((t &&& p : Nat) : Int) != (p : Int))) := by
  refine RV_of ft99 rfl ?_
  simp only [c99, r99]
  simp only [go_sem, Nat.reduceEqDiff, Nat.reduceAdd, Nat.reduceLT, Nat.reduceLeDiff, reduceIte, and_self, decide_true, decide_false, beq_self_eq_true, andI_u16 t p ht hp]
theorem cl100_ok (t : Nat) (m : Mk) (ht : t < 65536) : RV ft 100 [U16 t, .pv (encM m) 0] (.bool (decide (m.lo ≤ (popc 16 t : Nat)) && decide (((popc 16 t : Nat) : Int) ≤ m.hi))) := by
  refine RV_of ft100 rfl ?_
  simp only [c100, r100]
  simp only [go_sem, Nat.reduceEqDiff, Nat.reduceAdd, Nat.reduceLT, Nat.reduceLeDiff, reduceIte, and_self, decide_true, decide_false, beq_self_eq_true, WB62, WB101, WVH_eq (count_ok t ht), WVH_eq (holds_ok _ _ _), true_and]
theorem cl102_ok (t : Nat) (m : Mk) (ht : t < 65536) : RV ft 102 [U16 t, .pv (encM m) 0] (.bool (decide (m.lo ≤ (splicesL t : Nat)) && decide (((splicesL t : Nat) : Int) ≤ m.hi))) := by
  refine RV_of ft102 rfl ?_
  simp only [c102, r102]
  simp only [go_sem, Nat.reduceEqDiff, Nat.reduceAdd, Nat.reduceLT, Nat.reduceLeDiff, reduceIte, and_self, decide_true, decide_false, beq_self_eq_true, WB64, WB101, WVH_eq (splices_ok t ht), WVH_eq (holds_ok _ _ _), true_and]
theorem clo_p (m : Mk) (h : okPart m) (t : Nat) (ht : t < 65536) (s : St) (K : AV → St → Prop) : @WAH ft (clo m) [U16 t] s ⟨K⟩ = K (.bool (claimT m t)) s := by
  unfold clo claimT
  by_cases h2 : m.kind = 2
  · simp only [h2]
    simp only [go_sem, Nat.reduceEqDiff, Nat.reduceAdd, Nat.reduceLT, Nat.reduceLeDiff, reduceIte, and_self, decide_true, decide_false, beq_self_eq_true, WB98, WVH_eq (cl98_ok t _ ht (part_lt m h (Or.inl h2))), true_and, beq_self_eq_true]
  by_cases h3 : m.kind = 3
  · simp only [h3]
    simp only [go_sem, Nat.reduceEqDiff, Nat.reduceAdd, Nat.reduceLT, Nat.reduceLeDiff, reduceIte, and_self, decide_true, decide_false, beq_self_eq_true, WB99, WVH_eq (cl99_ok t _ ht (part_lt m h (Or.inr h3))), true_and, show ((3 : Int) == 2) = false from rfl, show ((3 : Int) == 3) = true from rfl, Bool.false_eq_true]
  have e2 : (m.kind == 2) = false := by simpa using h2
  have e3 : (m.kind == 3) = false := by simpa using h3
  by_cases h4 : m.kind = 4
  · simp only [h4]
    simp only [go_sem, Nat.reduceEqDiff, Nat.reduceAdd, Nat.reduceLT, Nat.reduceLeDiff, reduceIte, and_self, decide_true, decide_false, beq_self_eq_true, WB100, WVH_eq (cl100_ok t m ht), true_and, show ((4 : Int) == 2) = false from rfl, show ((4 : Int) == 3) = false from rfl, show ((4 : Int) == 4) = true from rfl, Bool.false_eq_true]
  have e4 : (m.kind == 4) = false := by simpa using h4
  simp only [e2, e3, e4]
  simp only [go_sem, Nat.reduceEqDiff, Nat.reduceAdd, Nat.reduceLT, Nat.reduceLeDiff, reduceIte, and_self, decide_true, decide_false, beq_self_eq_true, WB102, WVH_eq (cl102_ok t m ht), true_and, Bool.false_eq_true]
theorem claim_ok (m : Mk) (h : okPart m) : RV ft 90 [encM m] (clo m) := by
  refine RV_of ft90 rfl ?_
  simp only [c90, r90]
  have hb : m.kind = 2 ∨ m.kind = 3 → RV ft 70 [I64 m.fr, I64 m.to] (U16 (partN m)) := by
    intro hk
    obtain ⟨h1, h2, h3⟩ := h hk
    have := between_ok m.fr.toNat m.to.toNat (by omega) (by omega)
    rwa [Int.toNat_of_nonneg h1, Int.toNat_of_nonneg (by omega)] at this
  simp only [go_sem, Nat.reduceEqDiff, Nat.reduceAdd, Nat.reduceLT, Nat.reduceLeDiff, reduceIte, and_self, decide_true, decide_false, beq_self_eq_true]
  refine Cs_of (fun hc => ?_) fun hc => ?_
  · simp only [go_sem, Nat.reduceEqDiff, Nat.reduceAdd, Nat.reduceLT, Nat.reduceLeDiff, reduceIte, and_self, decide_true, decide_false, beq_self_eq_true, WB70, WVH_eq (hb (Or.inl (by simpa using hc))), true_and, clo, hc]
  · simp only [go_sem, Nat.reduceEqDiff, Nat.reduceAdd, Nat.reduceLT, Nat.reduceLeDiff, reduceIte, and_self, decide_true, decide_false, beq_self_eq_true]
    refine Cs_of (fun hd => ?_) fun hd => ?_
    · simp only [go_sem, Nat.reduceEqDiff, Nat.reduceAdd, Nat.reduceLT, Nat.reduceLeDiff, reduceIte, and_self, decide_true, decide_false, beq_self_eq_true, WB70, WVH_eq (hb (Or.inr (by simpa using hd))), true_and, clo, hc, hd, Bool.false_eq_true]
    · repeat' (first | simp only [go_sem, Nat.reduceEqDiff, Nat.reduceAdd, Nat.reduceLT, Nat.reduceLeDiff, reduceIte, and_self, decide_true, decide_false, beq_self_eq_true, Bool.not_true, Bool.not_false, decide_true, decide_false, true_and, and_true, clo, hc, hd, Bool.false_eq_true, *] | (refine Cs_of (fun _ => ?_) (fun _ => ?_)))
theorem snap_clo (m : Mem) (k : Nat) (x : Mk) : snap m (k + 4) (clo x) = clo x := by
  unfold clo
  split
  · rfl
  split
  · rfl
  split <;> rfl
theorem hot_clo (k : Nat) (x : Mk) : hot (k + 4) (clo x) = false := by
  unfold clo
  split
  · rfl
  split
  · rfl
  split <;> rfl
theorem cells_clo (x : Mk) : (clo x).cells = [clo x] ∧ (clo x).solid = true := by
  unfold clo
  split
  · exact ⟨rfl, rfl⟩
  split
  · exact ⟨rfl, rfl⟩
  split <;> exact ⟨rfl, rfl⟩
def isTear (m : Mk) : Bool := m.kind == 1
def tearsL (r : Rl) : List Mk := r.marks.filter isTear
def claimsL (r : Rl) : List Mk := r.marks.filter fun m => !isTear m
theorem tears_ok (r : Rl) (hl : r.marks.length < 1000000) : RV ft 82 [encR r] (.sl ((tearsL r).map encM) .unk) := by
  refine RV_of ft82 rfl ?_
  simp only [c82, r82]
  simp only [go_sem, Nat.reduceEqDiff, Nat.reduceAdd, Nat.reduceLT, Nat.reduceLeDiff, reduceIte, and_self, decide_true, decide_false, beq_self_eq_true]
  refine WL_inv (α := Nat × List Mk) (fun a e m => e 7 = .sl (r.marks.map encM) .unk ∧ e 8 = I64 r.marks.length ∧ e 9 = I64 a.1 ∧ r.marks.drop a.1 = a.2 ∧ a.1 ≤ r.marks.length ∧
    ∃ es : List Mk, Acc 37 (es.map encM) (e 3) m.toks ∧ es ++ a.2.filter isTear = tearsL r ∧ es.length ≤ a.1) (fun a => r.marks.length - a.1) (0, r.marks) ?_ ?_
  · simp only [go_sem, Nat.reduceEqDiff, Nat.reduceAdd, Nat.reduceLT, Nat.reduceLeDiff, reduceIte, and_self, decide_true, decide_false, beq_self_eq_true, List.length_map]
    exact ⟨trivial, trivial, rfl, trivial, by omega, [], Acc_nil _, rfl, by simp⟩
  · rintro ⟨k, l⟩ e ⟨blks, toks⟩ ⟨h7, h8, h9, hd, hk, es, ha, he, hn⟩
    dsimp only at *
    rcases l with _ | ⟨x, l⟩
    · have hk' := drop_nil hd
      simp only [go_sem, Nat.reduceEqDiff, Nat.reduceAdd, Nat.reduceLT, Nat.reduceLeDiff, reduceIte, and_self, decide_true, decide_false, beq_self_eq_true, h8, h9, dec_ge hk', ha.snap, List.map_map]
      rw [← he, List.filter_nil, List.append_nil]; rfl
    · obtain ⟨hg, hd', hlt⟩ := drop_cons hd
      simp only [go_sem, Nat.reduceEqDiff, Nat.reduceAdd, Nat.reduceLT, Nat.reduceLeDiff, reduceIte, and_self, decide_true, decide_false, beq_self_eq_true, h7, h8, h9, dec_lt hlt, dec_nn, Int.toNat_natCast, List.getElem?_map, hg]
      have hw : IntKind.i64.wrap ((k : Int) + 1) = ((k + 1 : Nat) : Int) := by rw [wrap_i64 _ (by omega) (by omega)]; rfl
      refine Cs_of (fun hc => ?_) fun hc => ?_
      · simp only [go_sem, Nat.reduceEqDiff, Nat.reduceAdd, Nat.reduceLT, Nat.reduceLeDiff, reduceIte, and_self, decide_true, decide_false, beq_self_eq_true]
        refine ha.app (sz := 5) (bytes := 40) (fun e he => by obtain ⟨a, _, rfl⟩ := List.mem_map.1 he; rfl) rfl (by simp only [List.length_map, limit]; omega) fun v' toks' ha' => ?_
        simp only [go_sem, Nat.reduceEqDiff, Nat.reduceAdd, Nat.reduceLT, Nat.reduceLeDiff, reduceIte, and_self, decide_true, decide_false, beq_self_eq_true, h9, hw]
        refine Nx_of (k + 1, l) (by simp; omega) ?_
        simp only [go_sem, Nat.reduceEqDiff, Nat.reduceAdd, Nat.reduceLT, Nat.reduceLeDiff, reduceIte, and_self, decide_true, decide_false, beq_self_eq_true, h7, h8]
        refine ⟨trivial, trivial, trivial, hd', by omega, es ++ [x], by simpa using ha', ?_, by simp; omega⟩
        rw [← he]; simp [isTear, hc]
      · simp only [go_sem, Nat.reduceEqDiff, Nat.reduceAdd, Nat.reduceLT, Nat.reduceLeDiff, reduceIte, and_self, decide_true, decide_false, beq_self_eq_true, h9, hw]
        refine Nx_of (k + 1, l) (by simp; omega) ?_
        simp only [go_sem, Nat.reduceEqDiff, Nat.reduceAdd, Nat.reduceLT, Nat.reduceLeDiff, reduceIte, and_self, decide_true, decide_false, beq_self_eq_true, h7, h8]
        refine ⟨trivial, trivial, trivial, hd', by omega, es, ha, ?_, by omega⟩
        rw [← he]; simp [isTear, hc]
theorem claims_ok (r : Rl) (hl : r.marks.length < 1000000) (hp : ∀ m ∈ r.marks, okPart m) : RV ft 78 [encR r] (.sl ((claimsL r).map clo) .unk) := by
  refine RV_of ft78 rfl ?_
  simp only [c78, r78]
  simp only [go_sem, Nat.reduceEqDiff, Nat.reduceAdd, Nat.reduceLT, Nat.reduceLeDiff, reduceIte, and_self, decide_true, decide_false, beq_self_eq_true]
  refine WL_inv (α := Nat × List Mk) (fun a e m => e 7 = .sl (r.marks.map encM) .unk ∧ e 8 = I64 r.marks.length ∧ e 9 = I64 a.1 ∧ r.marks.drop a.1 = a.2 ∧ a.1 ≤ r.marks.length ∧
    ∃ es : List Mk, Acc 114 (es.map clo) (e 3) m.toks ∧ es ++ a.2.filter (fun m => !isTear m) = claimsL r ∧ es.length ≤ a.1) (fun a => r.marks.length - a.1) (0, r.marks) ?_ ?_
  · simp only [go_sem, Nat.reduceEqDiff, Nat.reduceAdd, Nat.reduceLT, Nat.reduceLeDiff, reduceIte, and_self, decide_true, decide_false, beq_self_eq_true, List.length_map]
    exact ⟨trivial, trivial, rfl, trivial, by omega, [], Acc_nil _, rfl, by simp⟩
  · rintro ⟨k, l⟩ e ⟨blks, toks⟩ ⟨h7, h8, h9, hd, hk, es, ha, he, hn⟩
    dsimp only at *
    rcases l with _ | ⟨x, l⟩
    · have hk' := drop_nil hd
      simp only [go_sem, Nat.reduceEqDiff, Nat.reduceAdd, Nat.reduceLT, Nat.reduceLeDiff, reduceIte, and_self, decide_true, decide_false, beq_self_eq_true, h8, h9, dec_ge hk', ha.snap, List.map_map]
      rw [← he, List.filter_nil, List.append_nil]
      congr 1
      exact List.map_congr_left fun a _ => snap_clo _ 4 a
    · obtain ⟨hg, hd', hlt⟩ := drop_cons hd
      simp only [go_sem, Nat.reduceEqDiff, Nat.reduceAdd, Nat.reduceLT, Nat.reduceLeDiff, reduceIte, and_self, decide_true, decide_false, beq_self_eq_true, h7, h8, h9, dec_lt hlt, dec_nn, Int.toNat_natCast, List.getElem?_map, hg]
      have hw : IntKind.i64.wrap ((k : Int) + 1) = ((k + 1 : Nat) : Int) := by rw [wrap_i64 _ (by omega) (by omega)]; rfl
      refine Cs_of (fun hc => ?_) fun hc => ?_
      · simp only [go_sem, Nat.reduceEqDiff, Nat.reduceAdd, Nat.reduceLT, Nat.reduceLeDiff, reduceIte, and_self, decide_true, decide_false, beq_self_eq_true, WB90, WVH_eq (claim_ok x (hp x (List.mem_of_getElem? hg))), true_and, (cells_clo x).1, (cells_clo x).2]
        refine ha.app (sz := 1) (bytes := 8) (fun e he => by obtain ⟨a, _, rfl⟩ := List.mem_map.1 he; rw [(cells_clo a).1]; rfl) (by rw [(cells_clo x).1]; rfl) (by simp only [List.length_map, limit]; omega) fun v' toks' ha' => ?_
        simp only [go_sem, Nat.reduceEqDiff, Nat.reduceAdd, Nat.reduceLT, Nat.reduceLeDiff, reduceIte, and_self, decide_true, decide_false, beq_self_eq_true, h9, hw]
        refine Nx_of (k + 1, l) (by simp; omega) ?_
        simp only [go_sem, Nat.reduceEqDiff, Nat.reduceAdd, Nat.reduceLT, Nat.reduceLeDiff, reduceIte, and_self, decide_true, decide_false, beq_self_eq_true, h7, h8]
        refine ⟨trivial, trivial, trivial, hd', by omega, es ++ [x], by simpa using ha', ?_, by simp; omega⟩
        rw [← he]; simp at hc; simp [isTear, hc]
      · simp only [go_sem, Nat.reduceEqDiff, Nat.reduceAdd, Nat.reduceLT, Nat.reduceLeDiff, reduceIte, and_self, decide_true, decide_false, beq_self_eq_true, h9, hw]
        refine Nx_of (k + 1, l) (by simp; omega) ?_
        simp only [go_sem, Nat.reduceEqDiff, Nat.reduceAdd, Nat.reduceLT, Nat.reduceLeDiff, reduceIte, and_self, decide_true, decide_false, beq_self_eq_true, h7, h8]
        refine ⟨trivial, trivial, trivial, hd', by omega, es, ha, ?_, by omega⟩
        rw [← he]; simp at hc; simp [isTear, hc]
/-- The claims that are not true of a set of feet. -/
def untrueN (l : List Mk) (t : Nat) : Nat := (l.filter fun m => !claimT m t).length
theorem untrue_ok (l : List Mk) (t : Nat) (ht : t < 65536) (hp : ∀ m ∈ l, okPart m) (hl : l.length < 1000000) : RV ft 81 [.sl (l.map clo) .unk, U16 t] (I64 (untrueN l t : Nat)) := by
  refine RV_of ft81 rfl ?_
  simp only [c81, r81]
  simp only [go_sem, Nat.reduceEqDiff, Nat.reduceAdd, Nat.reduceLT, Nat.reduceLeDiff, reduceIte, and_self, decide_true, decide_false, beq_self_eq_true]
  refine WL_inv (α := Nat × List Mk) (fun a e m => e 8 = .sl (l.map clo) .unk ∧ e 1 = U16 t ∧ e 9 = I64 l.length ∧ e 10 = I64 a.1 ∧ l.drop a.1 = a.2 ∧ a.1 ≤ l.length ∧
    ∃ n : Nat, e 5 = I64 n ∧ n + untrueN a.2 t = untrueN l t ∧ n ≤ a.1) (fun a => l.length - a.1) (0, l) ?_ ?_
  · simp only [go_sem, Nat.reduceEqDiff, Nat.reduceAdd, Nat.reduceLT, Nat.reduceLeDiff, reduceIte, and_self, decide_true, decide_false, beq_self_eq_true, List.length_map]
    exact ⟨trivial, trivial, trivial, rfl, trivial, by omega, 0, rfl, by simp, by omega⟩
  · rintro ⟨k, r⟩ e m ⟨h8, h1, h9, h10, hd, hk, n, h5, he, hn⟩
    dsimp only at *
    rcases r with _ | ⟨x, r⟩
    · have hk' := drop_nil hd
      simp only [go_sem, Nat.reduceEqDiff, Nat.reduceAdd, Nat.reduceLT, Nat.reduceLeDiff, reduceIte, and_self, decide_true, decide_false, beq_self_eq_true, h5, h9, h10, dec_ge hk']
      have he' : n = untrueN l t := he
      rw [he']
    · obtain ⟨hg, hd', hlt⟩ := drop_cons hd
      have hw : IntKind.i64.wrap ((k : Int) + 1) = ((k + 1 : Nat) : Int) := by rw [wrap_i64 _ (by omega) (by omega)]; rfl
      simp only [go_sem, Nat.reduceEqDiff, Nat.reduceAdd, Nat.reduceLT, Nat.reduceLeDiff, reduceIte, and_self, decide_true, decide_false, beq_self_eq_true, h5, h8, h1, h9, h10, dec_lt hlt, dec_nn, Int.toNat_natCast, List.getElem?_map, hg, (cells_clo x).1, clo_p x (hp x (List.mem_of_getElem? hg)) t ht]
      refine Cs_of (fun hc => ?_) fun hc => ?_
      · simp only [go_sem, Nat.reduceEqDiff, Nat.reduceAdd, Nat.reduceLT, Nat.reduceLeDiff, reduceIte, and_self, decide_true, decide_false, beq_self_eq_true, h10, hw]
        refine Nx_of (k + 1, r) (by simp; omega) ?_
        simp only [go_sem, Nat.reduceEqDiff, Nat.reduceAdd, Nat.reduceLT, Nat.reduceLeDiff, reduceIte, and_self, decide_true, decide_false, beq_self_eq_true, h5, h8, h1, h9]
        refine ⟨trivial, trivial, trivial, trivial, hd', by omega, n, rfl, ?_, by omega⟩
        rw [← he]; simp [untrueN, hc]
      · simp only [go_sem, Nat.reduceEqDiff, Nat.reduceAdd, Nat.reduceLT, Nat.reduceLeDiff, reduceIte, and_self, decide_true, decide_false, beq_self_eq_true, h10, hw, h5]
        refine Nx_of (k + 1, r) (by simp; omega) ?_
        simp only [go_sem, Nat.reduceEqDiff, Nat.reduceAdd, Nat.reduceLT, Nat.reduceLeDiff, reduceIte, and_self, decide_true, decide_false, beq_self_eq_true, h5, h8, h1, h9]
        refine ⟨trivial, trivial, trivial, trivial, hd', by omega, n + 1, ?_, ?_, by omega⟩
        · rw [wrap_i64 _ (by omega) (by omega)]; rfl
        · rw [← he]; simp [untrueN, hc]; omega
/-- The feet of a set, in ascending order. -/
def listL (t n : Nat) : List Nat := (List.range n).filter t.testBit
theorem bit16 (t i : Nat) (ht : t < 65536) (hi : i < 65536) : (andI .u16 (Int.fdiv (t : Int) (2 ^ (min (Int.toNat (i : Int)) 16))) 1 == 1) = t.testBit i := by
  rw [Int.toNat_natCast, shr_nat, show (1 : Int) = ((1 : Nat) : Int) from rfl, andI_u16 _ _ (shr_lt _ _ _ ht) (by omega), Nat.and_one_is_mod, Nat.testBit_eq_decide_div_mod_eq, Nat.shiftRight_eq_div_pow]
  by_cases h : i ≤ 16
  · rw [Nat.min_eq_left h, Bool.eq_iff_iff]
    generalize t / 2 ^ i = q
    simp; omega
  · have h1 : t < 2 ^ 16 := by simpa using ht
    have h2 : (2 : Nat) ^ 16 ≤ 2 ^ i := two_pow_le (by omega)
    rw [Nat.min_eq_right (by omega), Nat.div_eq_of_lt h1, Nat.div_eq_of_lt (by omega)]; rfl
theorem list_ok (t n : Nat) (ht : t < 65536) (hl : n ≤ 16) : RV ft 72 [U16 t, I64 n] (.sl ((listL t n).map fun (i : Nat) => I64 i) .unk) := by
  refine RV_of ft72 rfl ?_
  simp only [c72, r72]
  simp only [go_sem, Nat.reduceEqDiff, Nat.reduceAdd, Nat.reduceLT, Nat.reduceLeDiff, reduceIte, and_self, decide_true, decide_false, beq_self_eq_true]
  refine WL_inv (α := Nat) (fun k e m => e 0 = U16 t ∧ e 7 = I64 n ∧ e 8 = I64 k ∧ k ≤ n ∧
    ∃ es : List Nat, Acc 3 (es.map fun (i : Nat) => I64 i) (e 5) m.toks ∧ es = listL t k) (fun k => n - k) 0 ?_ ?_
  · simp only [go_sem, Nat.reduceEqDiff, Nat.reduceAdd, Nat.reduceLT, Nat.reduceLeDiff, reduceIte, and_self, decide_true, decide_false, beq_self_eq_true]
    exact ⟨trivial, trivial, rfl, by omega, [], Acc_nil _, rfl⟩
  · rintro k e ⟨blks, toks⟩ ⟨h0, h7, h8, hk, es, ha, rfl⟩
    dsimp only at *
    by_cases hlt : k < n
    · have hw : IntKind.i64.wrap ((k : Int) + 1) = ((k + 1 : Nat) : Int) := by rw [wrap_i64 _ (by omega) (by omega)]; rfl
      have hx : listL t (k + 1) = listL t k ++ if t.testBit k then [k] else [] := by
        unfold listL
        rw [List.range_succ, List.filter_append, List.filter_cons, List.filter_nil]
      have hlen : (listL t k).length ≤ k := by unfold listL; exact Nat.le_trans (List.length_filter_le _ _) (by simp)
      simp only [go_sem, Nat.reduceEqDiff, Nat.reduceAdd, Nat.reduceLT, Nat.reduceLeDiff, reduceIte, and_self, decide_true, decide_false, beq_self_eq_true, h0, h7, h8, dec_lt hlt, decide_eq_false (show ¬ ((k : Nat) : Int) < 0 by omega), bit16 t k ht (by omega)]
      refine Cs_of (fun hc => ?_) fun hc => ?_
      · simp only [go_sem, Nat.reduceEqDiff, Nat.reduceAdd, Nat.reduceLT, Nat.reduceLeDiff, reduceIte, and_self, decide_true, decide_false, beq_self_eq_true, h8]
        refine ha.app (y := I64 k) (sz := 1) (bytes := 8) (fun e he => by obtain ⟨a, _, rfl⟩ := List.mem_map.1 he; rfl) rfl (by simp only [List.length_map, limit]; omega) fun v' toks' ha' => ?_
        simp only [go_sem, Nat.reduceEqDiff, Nat.reduceAdd, Nat.reduceLT, Nat.reduceLeDiff, reduceIte, and_self, decide_true, decide_false, beq_self_eq_true, h8, hw]
        refine Nx_of (k + 1) (by omega) ?_
        simp only [go_sem, Nat.reduceEqDiff, Nat.reduceAdd, Nat.reduceLT, Nat.reduceLeDiff, reduceIte, and_self, decide_true, decide_false, beq_self_eq_true, h0, h7]
        refine ⟨trivial, trivial, trivial, by omega, _, ?_, rfl⟩
        rw [hx, if_pos hc]; simpa using ha'
      · simp only [go_sem, Nat.reduceEqDiff, Nat.reduceAdd, Nat.reduceLT, Nat.reduceLeDiff, reduceIte, and_self, decide_true, decide_false, beq_self_eq_true, h8, hw]
        refine Nx_of (k + 1) (by omega) ?_
        simp only [go_sem, Nat.reduceEqDiff, Nat.reduceAdd, Nat.reduceLT, Nat.reduceLeDiff, reduceIte, and_self, decide_true, decide_false, beq_self_eq_true, h0, h7]
        refine ⟨trivial, trivial, trivial, by omega, _, ?_, rfl⟩
        rw [hx, hc]; simpa using ha
    · obtain rfl : k = n := by omega
      simp only [go_sem, Nat.reduceEqDiff, Nat.reduceAdd, Nat.reduceLT, Nat.reduceLeDiff, reduceIte, and_self, decide_true, decide_false, beq_self_eq_true, h7, h8, dec_ge (Nat.le_refl k), ha.snap, List.map_map]
      rfl
end Go.Ab.T
end

section
namespace Go.Ab.T
set_option maxRecDepth 8000
set_option linter.unusedSimpArgs false
abbrev B64 (x : Nat) : Prop := x < 18446744073709551616
/-- The words of a family. -/
def encF (W : Nat) (x : Nat → Nat) : List AV := (List.range W).map fun j => U64 (x j)
theorem encF_get (W : Nat) (x : Nat → Nat) (k : Nat) (h : k < W) : (encF W x)[k]? = some (U64 (x k)) := by
  unfold encF; simp [h]
theorem encF_len (W : Nat) (x : Nat → Nat) : (encF W x).length = W := by simp [encF]
theorem encF_set (W : Nat) (x : Nat → Nat) (k v : Nat) : (encF W x).set k (U64 v) = encF W fun j => if j = k then v else x j := by
  apply List.ext_getElem?
  intro i
  rw [List.getElem?_set, encF_len]
  by_cases hi : i < W
  · rw [encF_get _ _ _ hi, encF_get _ _ _ hi]
    by_cases hk : k = i
    · subst hk; simp [hi]
    · have : ¬ i = k := fun h => hk h.symm
      simp [hk, this]
  · have h1 : ∀ x, (encF W x)[i]? = none := fun x => by rw [List.getElem?_eq_none]; rw [encF_len]; omega
    rw [h1, h1]
    split
    · split
      · omega
      · rfl
    · rfl
theorem encF_congr {W : Nat} {x y : Nat → Nat} (h : ∀ j, j < W → x j = y j) : encF W x = encF W y := by
  unfold encF
  exact List.map_congr_left fun j hj => by rw [h j (List.mem_range.1 hj)]
theorem encF_snap (m : Mem) (k W : Nat) (x : Nat → Nat) : (encF W x).map (snap m (k + 1)) = encF W x := by
  unfold encF; rw [List.map_map]; rfl
theorem encF_cells (W : Nat) (x : Nat → Nat) : ∀ e ∈ encF W x, e.cells.length = 1 := by
  intro e he
  obtain ⟨a, _, rfl⟩ := List.mem_map.1 he; rfl
theorem encF_hd (W : Nat) (x : Nat → Nat) : hdSz (encF W x) 1 = true := by
  unfold encF
  cases h : List.range W with
  | nil => rfl
  | cons a r => rfl
theorem encF_zero (W : Nat) : List.replicate W (AV.int .u64 0) = encF W fun _ => 0 := by
  show _ = List.map (fun _ => AV.int .u64 0) (List.range W)
  rw [List.map_const', List.length_range]
/-! ### The sets of a family, one after the other -/
def bits64 (x : Nat) : List Nat := (List.range 64).filter x.testBit
theorem low_clear (k q : Nat) : (2 ^ k * (2 * q + 1)) &&& (2 ^ k * (2 * q + 1) - 1) = 2 ^ k * (2 * q) := by
  have hp : 0 < 2 ^ k := Nat.two_pow_pos k
  have e : 2 ^ k * (2 * q + 1) - 1 = 2 ^ k * (2 * q) + (2 ^ k - 1) := by rw [Nat.mul_add, Nat.mul_one]; omega
  apply Nat.eq_of_testBit_eq
  intro i
  rw [e, Nat.testBit_and, Nat.testBit_two_pow_mul, Nat.testBit_two_pow_mul_add _ (by omega), Nat.testBit_two_pow_mul]
  by_cases h1 : i < k
  · simp [h1, show ¬ k ≤ i by omega]
  · simp only [h1, show k ≤ i by omega, if_false, decide_true, Bool.true_and]
    cases hj : i - k with
    | zero => simp [Nat.testBit_zero]
    | succ j => simp [Nat.testBit_succ, show (2 * q + 1) / 2 = q by omega]
theorem bits64_step (x : Nat) (h0 : x ≠ 0) (h : B64 x) : bits64 x = tz 64 x :: bits64 (x &&& (x - 1)) ∧ (x &&& (x - 1)) < x := by
  obtain ⟨h1, q, h2⟩ := tz_spec 64 x h0 (by simpa using h)
  generalize tz 64 x = k at *
  have h3 : x &&& (x - 1) = 2 ^ k * (2 * q) := by rw [h2]; exact low_clear k q
  have hp : 0 < 2 ^ k := Nat.two_pow_pos k
  refine ⟨?_, by rw [h3, h2, Nat.mul_add, Nat.mul_one]; omega⟩
  rw [h3]
  unfold bits64
  have hs : List.range 64 = List.range k ++ k :: List.range' (k + 1) (63 - k) := by
    rw [List.range_eq_range', List.range_eq_range']
    have := List.range'_append_1 (s := 0) (m := k) (n := 64 - k)
    rw [show k + (64 - k) = 64 by omega] at this
    rw [← this, Nat.zero_add, show 64 - k = (63 - k) + 1 by omega, List.range'_succ]
  rw [hs, List.filter_append, List.filter_append, List.filter_cons, List.filter_cons]
  have hl : ∀ y, (List.range k).filter (2 ^ k * y).testBit = [] := by
    intro y
    rw [List.filter_eq_nil_iff]
    intro i hi
    have := List.mem_range.1 hi
    rw [Nat.testBit_two_pow_mul]; simp; omega
  have e1 : x.testBit k = true := by rw [h2, Nat.testBit_two_pow_mul]; simp [Nat.testBit_zero]
  have e2 : (2 ^ k * (2 * q)).testBit k = false := by rw [Nat.testBit_two_pow_mul]; simp [Nat.testBit_zero]
  have hx : (List.range k).filter x.testBit = [] := by rw [h2]; exact hl _
  rw [hx, hl, e1, e2]
  simp only [List.nil_append, if_true, Bool.false_eq_true, if_false]
  congr 1
  apply List.filter_congr
  intro i hi
  have hi' := (List.mem_range'_1.1 hi).1
  rw [h2, Nat.testBit_two_pow_mul, Nat.testBit_two_pow_mul]
  obtain ⟨j, rfl⟩ : ∃ j, i = k + (j + 1) := ⟨i - k - 1, by omega⟩
  simp [Nat.testBit_succ, show k + (j + 1) - k = j + 1 by omega, show (2 * q + 1) / 2 = q by omega]
def setsFrom (x : Nat → Nat) (W : Nat) : Nat → List Nat
  | 0 => []
  | n + 1 => (bits64 (x (W - (n + 1)))).map (fun t => (W - (n + 1)) * 64 + t) ++ setsFrom x W n
theorem sets_prod {id : Nat} {J : List Nat → Mem → Prop} (W : Nat) (x : Nat → Nat) (hW : W ≤ 8) (hx : ∀ j, B64 (x j)) (hy : ∀ y ys m K', y < 512 → J (y :: ys) m → (∀ m', J ys m' → K' (.bool true) m') → WR ft (.y id) [U16 y] m K')
    (m : Mem) (h0 : J (setsFrom x W W) m) (K : AV → Mem → Prop) (hK : ∀ m, J [] m → K (.tup []) m) : WR ft (.f 80) [.sl (encF W x) .unk, .yld id] m K := by
  rw [WR_f ft80 rfl]
  simp only [c80, r80]
  simp only [go_sem, Nat.reduceEqDiff, Nat.reduceAdd, Nat.reduceLT, Nat.reduceLeDiff, reduceIte, and_self, decide_true, decide_false, beq_self_eq_true]
  refine WL_inv (α := Nat) (fun k e m => e 1 = .yld id ∧ e 6 = .sl (encF W x) .unk ∧ e 7 = I64 W ∧ e 8 = I64 k ∧ k ≤ W ∧ J (setsFrom x W (W - k)) m) (fun k => W - k) 0 ?_ ?_
  · simp only [go_sem, Nat.reduceEqDiff, Nat.reduceAdd, Nat.reduceLT, Nat.reduceLeDiff, reduceIte, and_self, decide_true, decide_false, beq_self_eq_true, encF_len]
    exact ⟨trivial, trivial, trivial, rfl, by omega, h0⟩
  · rintro k e m ⟨h1, h6, h7, h8, hk, hj⟩
    by_cases hlt : k < W
    · have hw : IntKind.i64.wrap ((k : Int) + 1) = ((k + 1 : Nat) : Int) := by rw [wrap_i64 _ (by omega) (by omega)]; rfl
      rw [show W - k = (W - (k + 1)) + 1 by omega] at hj
      simp only [setsFrom, show W - ((W - (k + 1)) + 1) = k by omega] at hj
      simp only [go_sem, Nat.reduceEqDiff, Nat.reduceAdd, Nat.reduceLT, Nat.reduceLeDiff, reduceIte, and_self, decide_true, decide_false, beq_self_eq_true, h1, h6, h7, h8, dec_lt hlt, dec_nn, Int.toNat_natCast, encF_get W x k hlt]
      refine WL_inv (α := Nat) (fun y e m => e 1 = .yld id ∧ e 6 = .sl (encF W x) .unk ∧ e 7 = I64 W ∧ e 8 = I64 k ∧ e 4 = I64 k ∧ e 5 = U64 y ∧ B64 y ∧ J ((bits64 y).map (fun t => k * 64 + t) ++ setsFrom x W (W - (k + 1))) m) (fun y => y) (x k) ?_ ?_
      · simp only [go_sem, Nat.reduceEqDiff, Nat.reduceAdd, Nat.reduceLT, Nat.reduceLeDiff, reduceIte, and_self, decide_true, decide_false, beq_self_eq_true, h1, h6, h7, h8]
        exact ⟨trivial, trivial, trivial, trivial, trivial, trivial, hx k, hj⟩
      · rintro y e m ⟨h1, h6, h7, h8, h4, h5, hy64, hj⟩
        simp only [go_sem, Nat.reduceEqDiff, Nat.reduceAdd, Nat.reduceLT, Nat.reduceLeDiff, reduceIte, and_self, decide_true, decide_false, beq_self_eq_true, h1, h6, h7, h8, h4, h5]
        refine Cs_of (fun hc => ?_) fun hc => ?_
        · have hy0 : y ≠ 0 := by simpa using hc
          obtain ⟨hb, hless⟩ := bits64_step y hy0 hy64
          have ht : tz 64 y < 64 := (tz_spec 64 y hy0 (by simpa using hy64)).1
          rw [hb, List.map_cons, List.cons_append] at hj
          have e1 : IntKind.i64.wrap ((k : Int) * 64) = ((k * 64 : Nat) : Int) := by rw [wrap_i64 _ (by omega) (by omega)]; omega
          have e2 : IntKind.u16.wrap (IntKind.i64.wrap (((k * 64 : Nat) : Int) + ((tz 64 y : Nat) : Int))) = ((k * 64 + tz 64 y : Nat) : Int) := by
            rw [wrap_i64 _ (by omega) (by omega), wrap_u16 _ (by omega) (by omega)]; omega
          have e3 : IntKind.u64.wrap ((y : Int) - 1) = ((y - 1 : Nat) : Int) := by
            have : y < 18446744073709551616 := hy64
            rw [wrap_u64 _ (by omega) (by omega)]; omega
          have e4 : andI .u64 (y : Int) ((y - 1 : Nat) : Int) = ((y &&& (y - 1) : Nat) : Int) := andI_u64 _ _ hy64 (by have : y < 18446744073709551616 := hy64; omega)
          simp only [go_sem, Nat.reduceEqDiff, Nat.reduceAdd, Nat.reduceLT, Nat.reduceLeDiff, reduceIte, and_self, decide_true, decide_false, beq_self_eq_true, h1, h4, h5, WB95, WVH_eq (tz64_ok y hy64), true_and, e1, e2]
          refine hy _ _ _ _ (by omega) hj fun m' hj' => ?_
          simp only [go_sem, Nat.reduceEqDiff, Nat.reduceAdd, Nat.reduceLT, Nat.reduceLeDiff, reduceIte, and_self, decide_true, decide_false, beq_self_eq_true, h1, h6, h7, h8, h4, h5, e3, e4]
          refine Nx_of (y &&& (y - 1)) hless ?_
          simp only [go_sem, Nat.reduceEqDiff, Nat.reduceAdd, Nat.reduceLT, Nat.reduceLeDiff, reduceIte, and_self, decide_true, decide_false, beq_self_eq_true, h1, h6, h7, h8, h4]
          exact ⟨trivial, trivial, trivial, trivial, trivial, trivial, Nat.lt_trans hless hy64, hj'⟩
        · have hy0 : y = 0 := by simpa using hc
          subst hy0
          simp only [go_sem, Nat.reduceEqDiff, Nat.reduceAdd, Nat.reduceLT, Nat.reduceLeDiff, reduceIte, and_self, decide_true, decide_false, beq_self_eq_true, h1, h6, h7, h8, hw]
          refine Nx_of (k + 1) (by omega) ?_
          simp only [go_sem, Nat.reduceEqDiff, Nat.reduceAdd, Nat.reduceLT, Nat.reduceLeDiff, reduceIte, and_self, decide_true, decide_false, beq_self_eq_true, h1, h6, h7]
          refine ⟨trivial, trivial, trivial, trivial, by omega, ?_⟩
          have hb0 : bits64 0 = [] := by simp [bits64]
          simpa [hb0] using hj
    · obtain rfl : k = W := by omega
      simp only [go_sem, Nat.reduceEqDiff, Nat.reduceAdd, Nat.reduceLT, Nat.reduceLeDiff, reduceIte, and_self, decide_true, decide_false, beq_self_eq_true, h7, h8, dec_ge (Nat.le_refl k)]
      exact hK _ (by simpa [setsFrom] using hj)
end Go.Ab.T
end

section
namespace Go.Ab.T
set_option maxRecDepth 8000
set_option linter.unusedSimpArgs false
/-- A slice that can be read besides a block that is written. -/
def Rd (W : Nat) (y : Nat → Nat) (id : Nat) (blks : List Blk) (v : AV) : Prop :=
  (∃ tk, v = .sl (encF W y) tk) ∨ ∃ j, v = .ref j 0 W ∧ blks[j]? = some (.live (encF W y) 1) ∧ j ≠ id
theorem Rd.set {W : Nat} {y : Nat → Nat} {id : Nat} {blks : List Blk} {v : AV} (h : Rd W y id blks v) (b : Blk) : Rd W y id (blks.set id b) v := by
  rcases h with h | ⟨j, h1, h2, h3⟩
  · exact Or.inl h
  · exact Or.inr ⟨j, h1, by rw [List.getElem?_set_ne (fun h => h3 h.symm)]; exact h2, h3⟩
theorem Rd.len {W : Nat} {y : Nat → Nat} {id : Nat} {blks : List Blk} {v : AV} (h : Rd W y id blks v) (toks : List (Nat × Nat)) : lenAt ⟨blks, toks⟩ v = some (I64 W) := by
  rcases h with ⟨tk, rfl⟩ | ⟨j, rfl, h2, h3⟩
  · simp only [go_sem, encF_len]
  · simp only [go_sem, h2, reduceIte]
theorem Rd.get {W : Nat} {y : Nat → Nat} {id : Nat} {blks : List Blk} {v : AV} (h : Rd W y id blks v) (toks : List (Nat × Nat)) (k : Nat) (hk : k < W) :
    ∃ p, idxAt ⟨blks, toks⟩ v (I64 k) 1 = some p ∧ loadAt ⟨blks, toks⟩ p none = some (U64 (y k)) := by
  rcases h with ⟨tk, rfl⟩ | ⟨j, rfl, h2, h3⟩
  · refine ⟨.pv (U64 (y k)) 0, ?_, rfl⟩
    rw [idxAt_sl, if_pos (by omega), Int.toNat_natCast, encF_get W y k hk]; rfl
  · refine ⟨.ptr j k 0, ?_, ?_⟩
    · rw [idxAt_ref, lsz_eq, Mem.blks, h2, if_pos ⟨⟨by omega, by omega⟩, rfl⟩, Int.toNat_natCast, Nat.zero_add]
    · simp only [go_sem, h2, encF_get W y k hk]
theorem shl1_u64 (n : Nat) (h : n < 6) : IntKind.u64.wrap ((1 : Int) * 2 ^ (min n 64)) = ((2 ^ n : Nat) : Int) := by
  rw [Nat.min_eq_left (by omega), show ((1 : Int) * 2 ^ n) = ((2 ^ n : Nat) : Int) by simp]
  have := two_pow_le (a := n) (b := 6) (by omega)
  have h0 := Nat.two_pow_pos n
  rw [wrap_u64 _ (by omega) (by omega)]
theorem bound_or {a b : Nat} (h : B64 a) (h' : B64 b) : B64 (a ||| b) := by
  have := or_lt a b 64 (by simpa using h) (by simpa using h'); simpa using this
theorem join_ok {W : Nat} {x y : Nat → Nat} {id : Nat} {blks : List Blk} {toks : List (Nat × Nat)} {v : AV} (hW : W ≤ 8) (hx : ∀ j, B64 (x j)) (hy : ∀ j, B64 (y j)) (hb : blks[id]? = some (.live (encF W x) 1)) (hv : Rd W y id blks v)
    (K : AV → Mem → Prop) (hK : K (.tup []) ⟨blks.set id (.live (encF W fun j => x j ||| y j) 1), toks⟩) : WR ft (.f 94) [.ref id 0 W, v] ⟨blks, toks⟩ K := by
  have hid : id < blks.length := (List.getElem?_eq_some_iff.1 hb).1
  rw [WR_f ft94 rfl]
  simp only [c94, r94]
  simp only [go_sem, Nat.reduceEqDiff, Nat.reduceAdd, Nat.reduceLT, Nat.reduceLeDiff, reduceIte, and_self, decide_true, decide_false, beq_self_eq_true, hb]
  refine WL_inv (α := Nat) (fun k e m => e 0 = .ref id 0 W ∧ e 1 = v ∧ e 6 = I64 W ∧ e 7 = I64 k ∧ k ≤ W ∧ m = ⟨blks.set id (.live (encF W fun j => if j < k then x j ||| y j else x j) 1), toks⟩) (fun k => W - k) 0 ?_ ?_
  · simp only [go_sem, Nat.reduceEqDiff, Nat.reduceAdd, Nat.reduceLT, Nat.reduceLeDiff, reduceIte, and_self, decide_true, decide_false, beq_self_eq_true]
    refine ⟨trivial, trivial, trivial, rfl, by omega, ?_⟩
    simp only [Nat.not_lt_zero, if_false]
    congr 1
    apply List.ext_getElem?
    intro i
    rw [List.getElem?_set]
    split
    · rename_i h; subst h; exact hb.trans (by first | rfl | (rw [if_pos hid]))
    · rfl
  · rintro k e m ⟨h0, h1, h6, h7, hk, rfl⟩
    by_cases hlt : k < W
    · have hw : IntKind.i64.wrap ((k : Int) + 1) = ((k + 1 : Nat) : Int) := by rw [wrap_i64 _ (by omega) (by omega)]; rfl
      obtain ⟨p, hp1, hp2⟩ := (hv.set (.live (encF W fun j => if j < k then x j ||| y j else x j) 1)).get toks k hlt
      have hg : (blks.set id (.live (encF W fun j => if j < k then x j ||| y j else x j) 1))[id]? = some (.live (encF W fun j => if j < k then x j ||| y j else x j) 1) := by
        rw [List.getElem?_set_self hid]
      have hc : decide (((0 : Int) ≤ (k : Int) ∧ (k : Int) < (W : Int)) ∧ True) = true := decide_eq_true ⟨⟨by omega, by omega⟩, trivial⟩
      have ho : ∀ a b : Nat, B64 a → B64 b → orI .u64 (a : Int) (b : Int) = ((a ||| b : Nat) : Int) := fun a b ha hb => orI_u64 a b ha hb
      simp only [go_sem, Nat.reduceEqDiff, Nat.reduceAdd, Nat.reduceLT, Nat.reduceLeDiff, reduceIte, and_self, decide_true, decide_false, beq_self_eq_true, h0, h1, h6, h7, dec_lt hlt, hg, hp1, hp2, hc, Int.toNat_natCast, Nat.zero_add, encF_get W _ k hlt, Nat.lt_irrefl, ho _ _ (hx k) (hy k), encF_set, List.set_set, hw]
      refine Nx_of (k + 1) (by omega) ?_
      simp only [go_sem, Nat.reduceEqDiff, Nat.reduceAdd, Nat.reduceLT, Nat.reduceLeDiff, reduceIte, and_self, decide_true, decide_false, beq_self_eq_true, h0, h1, h6, h7]
      refine ⟨trivial, trivial, trivial, trivial, by omega, ?_⟩
      congr 3
      exact encF_congr fun j hj => by
        by_cases h2 : j = k
        · subst h2; simp
        · simp only [h2, if_false]
          by_cases h3 : j < k
          · rw [if_pos h3, if_pos (by omega)]
          · rw [if_neg h3, if_neg (by omega)]
    · obtain rfl : k = W := by omega
      simp only [go_sem, Nat.reduceEqDiff, Nat.reduceAdd, Nat.reduceLT, Nat.reduceLeDiff, reduceIte, and_self, decide_true, decide_false, beq_self_eq_true, h6, h7, dec_ge (Nat.le_refl k)]
      have : (encF k fun j => if j < k then x j ||| y j else x j) = encF k fun j => x j ||| y j := encF_congr fun j hj => by rw [if_pos hj]
      rw [this]
      exact hK
theorem newFamily_ok (n : Nat) (h : n ≤ 9) (K : AV → Mem → Prop) (hK : K (.ref 0 0 (2 ^ (n - 6))) ⟨[.live (encF (2 ^ (n - 6)) fun _ => 0) 1], []⟩) : WR ft (.f 91) [I64 n] .nil K := by
  rw [WR_f ft91 rfl]
  simp only [c91, r91]
  have h1 : IntKind.i64.wrap ((n : Int) - 6) = (n : Int) - 6 := wrap_i64 _ (by omega) (by omega)
  have h2 : max ((n : Int) - 6) 0 = ((n - 6 : Nat) : Int) := by omega
  have h3 : (2 : Nat) ^ (n - 6) ≤ 8 := two_pow_le (b := 3) (by omega)
  have h3' := Nat.two_pow_pos (n - 6)
  have h4 : IntKind.i64.wrap ((1 : Int) * 2 ^ (min (Int.toNat ((n - 6 : Nat) : Int)) 64)) = ((2 ^ (n - 6) : Nat) : Int) := by
    rw [Int.toNat_natCast, Nat.min_eq_left (by omega), show ((1 : Int) * 2 ^ (n - 6)) = ((2 ^ (n - 6) : Nat) : Int) by simp, wrap_i64 _ (by omega) (by omega)]
  simp only [go_sem, Nat.reduceEqDiff, Nat.reduceAdd, Nat.reduceLT, Nat.reduceLeDiff, reduceIte, and_self, decide_true, decide_false, beq_self_eq_true, h1, h2, decide_eq_false (show ¬ ((n - 6 : Nat) : Int) < 0 by omega), h4]
  generalize (2 : Nat) ^ (n - 6) = w at *
  refine Cs_dec (fun _ => ?_) fun hc => hc.elim ⟨⟨by omega, trivial⟩, by simp only [Int.toNat_natCast, limit]; omega, by simp⟩
  simp only [go_sem, Nat.reduceEqDiff, Nat.reduceAdd, Nat.reduceLT, Nat.reduceLeDiff, reduceIte, and_self, decide_true, decide_false, beq_self_eq_true, Int.toNat_natCast, encF_zero]
  exact hK
/-- The words' sets that have one of the first feet. -/
def tab2N : List Nat := [12297829382473034410, 14757395258967641292, 17361641481138401520, 18374966859414961920, 18446462603027742720, 18446744069414584320]
theorem tab2_eq : tab2 = .agg (tab2N.map fun (n : Nat) => .int .u64 (n : Int)) := rfl
theorem and_pow : ∀ k, k < 8 → ∀ s, s < 3 → k &&& 2 ^ s = (k.testBit s).toNat * 2 ^ s := by decide +kernel
theorem no_bit : ∀ n, n < 4 → ∀ s, s < n → ∀ j, j < 2 ^ n → j.testBit s = false → j + 2 ^ s < 2 ^ n := by decide +kernel
def addW (f w : Nat) : Nat := (w ||| (w * 2 ^ 2 ^ f) % 18446744073709551616) &&& (tab2N[f]?).getD 0
theorem tab2_lt (f : Nat) (hf : f < 6) : ∃ c, tab2N[f]? = some c ∧ B64 c := by
  match f, hf with
  | 0, _ | 1, _ | 2, _ | 3, _ | 4, _ | 5, _ => exact ⟨_, rfl, by decide⟩
/-- A foot is put in all sets of a family. -/
def addF (f : Nat) (x : Nat → Nat) : Nat → Nat := fun j => if f < 6 then addW f (x j) else if j.testBit (f - 6) then x j ||| x (j - 2 ^ (f - 6)) else 0
theorem addF_lt {f : Nat} {x : Nat → Nat} (hx : ∀ j, B64 (x j)) : ∀ j, B64 (addF f x j) := by
  intro j
  unfold addF
  split
  · rename_i h
    obtain ⟨c, h1, h2⟩ := tab2_lt f h
    unfold addW
    rw [h1]
    exact Nat.lt_of_le_of_lt Nat.and_le_right h2
  · split
    · exact bound_or (hx _) (hx _)
    · decide
theorem add_ok {W : Nat} {x : Nat → Nat} {id f n : Nat} {blks : List Blk} {toks : List (Nat × Nat)} (hW : W = 2 ^ n) (hn : n ≤ 3) (hf : f < n + 6) (hx : ∀ j, B64 (x j)) (hb : blks[id]? = some (.live (encF W x) 1))
    (K : AV → Mem → Prop) (hK : K (.tup []) ⟨blks.set id (.live (encF W (addF f x)) 1), toks⟩) : WR ft (.f 104) [.ref id 0 W, I64 f] ⟨blks, toks⟩ K := by
  have hid : id < blks.length := (List.getElem?_eq_some_iff.1 hb).1
  have hW8 : W ≤ 8 := by rw [hW]; exact two_pow_le (b := 3) hn
  rw [WR_f ft104 rfl]
  simp only [c104, r104]
  have hstart : ∀ c : Nat → Nat, (∀ j, j < W → c j = x j) → blks = blks.set id (.live (encF W c) 1) := by
    intro c hc
    rw [encF_congr hc]
    apply List.ext_getElem?
    intro i
    rw [List.getElem?_set]
    split
    · rename_i h; subst h; exact hb.trans (by first | rfl | (rw [if_pos hid]))
    · rfl
  have hg : ∀ c : Nat → Nat, (blks.set id (.live (encF W c) 1))[id]? = some (.live (encF W c) 1) := fun c => by rw [List.getElem?_set_self hid]
  by_cases h6 : f < 6
  · obtain ⟨c, hc1, hc2⟩ := tab2_lt f h6
    simp only [go_sem, Nat.reduceEqDiff, Nat.reduceAdd, Nat.reduceLT, Nat.reduceLeDiff, reduceIte, and_self, decide_true, decide_false, beq_self_eq_true, dec_lt h6, decide_eq_true (show (f : Int) < 6 by omega), hb]
    refine WL_inv (α := Nat) (fun k e m => e 0 = .ref id 0 W ∧ e 10 = .ref id 0 W ∧ e 1 = I64 f ∧ e 11 = I64 W ∧ e 12 = I64 k ∧ k ≤ W ∧ m = ⟨blks.set id (.live (encF W fun j => if j < k then addW f (x j) else x j) 1), toks⟩) (fun k => W - k) 0 ?_ ?_
    · simp only [go_sem, Nat.reduceEqDiff, Nat.reduceAdd, Nat.reduceLT, Nat.reduceLeDiff, reduceIte, and_self, decide_true, decide_false, beq_self_eq_true]
      refine ⟨trivial, trivial, trivial, trivial, rfl, by omega, ?_⟩
      congr 1
      exact hstart _ fun j hj => by simp
    · rintro k e m ⟨h0, h10, h1, h11, h12, hk, rfl⟩
      by_cases hlt : k < W
      · have hw : IntKind.i64.wrap ((k : Int) + 1) = ((k + 1 : Nat) : Int) := by rw [wrap_i64 _ (by omega) (by omega)]; rfl
        have hc : decide (((0 : Int) ≤ (k : Int) ∧ (k : Int) < (W : Int)) ∧ True) = true := decide_eq_true ⟨⟨by omega, by omega⟩, trivial⟩
        have e1 : ∀ y : Nat, IntKind.u64.wrap ((y : Int) * 2 ^ (min (2 ^ f) 64)) = ((y * 2 ^ 2 ^ f % 18446744073709551616 : Nat) : Int) := by
          intro y
          have := two_pow_le (a := f) (b := 5) (by omega)
          rw [Nat.min_eq_left (by omega), show ((y : Int) * 2 ^ 2 ^ f) = ((y * 2 ^ 2 ^ f : Nat) : Int) by simp, wrap_u64_nat]
        have e2 : ∀ m, aidxAt m (.pv tab2 0) (I64 f) 6 1 = some (.pv tab2 f) := by
          intro m
          rw [aidxAt_pv, if_pos (by omega), Int.toNat_natCast, Nat.zero_add, Nat.mul_one]
        have e3 : ∀ m, loadAt m (.pv tab2 f) none = some (U64 c) := by
          intro m
          rw [loadAt_pv, tab2_eq, cells_agg, readCells_none, List.getElem?_map, hc1]; rfl
        have e4 : orI .u64 (x k : Int) ((x k * 2 ^ 2 ^ f % 18446744073709551616 : Nat) : Int) = ((x k ||| x k * 2 ^ 2 ^ f % 18446744073709551616 : Nat) : Int) := orI_u64 _ _ (hx k) (by omega)
        have e5 : andI .u64 ((x k ||| x k * 2 ^ 2 ^ f % 18446744073709551616 : Nat) : Int) (c : Int) = ((addW f (x k) : Nat) : Int) := by
          have : B64 (x k ||| x k * 2 ^ 2 ^ f % 18446744073709551616) := bound_or (hx k) (Nat.mod_lt _ (by decide))
          rw [andI_u64 _ _ this hc2]; unfold addW; rw [hc1]; rfl
        simp only [go_sem, Nat.reduceEqDiff, Nat.reduceAdd, Nat.reduceLT, Nat.reduceLeDiff, reduceIte, and_self, decide_true, decide_false, beq_self_eq_true, h0, h10, h1, h11, h12, dec_lt hlt, hg, hc, Int.toNat_natCast, Nat.zero_add, encF_get W _ k hlt, Nat.lt_irrefl, decide_eq_false (show ¬ (f : Int) < 0 by omega), decide_eq_false (Int.not_lt.2 (Int.natCast_nonneg (2 ^ f))), shl1_u64 f h6, e1, e2, e3, e4, e5, encF_set, List.set_set, hw]
        refine Nx_of (k + 1) (by omega) ?_
        simp only [go_sem, Nat.reduceEqDiff, Nat.reduceAdd, Nat.reduceLT, Nat.reduceLeDiff, reduceIte, and_self, decide_true, decide_false, beq_self_eq_true, h0, h10, h1, h11, h12]
        refine ⟨trivial, trivial, trivial, trivial, trivial, by omega, ?_⟩
        congr 3
        exact encF_congr fun j hj => by
          by_cases h2 : j = k
          · subst h2; simp
          · simp only [h2, if_false]
            by_cases h3 : j < k
            · rw [if_pos h3, if_pos (by omega)]
            · rw [if_neg h3, if_neg (by omega)]
      · obtain rfl : k = W := by omega
        simp only [go_sem, Nat.reduceEqDiff, Nat.reduceAdd, Nat.reduceLT, Nat.reduceLeDiff, reduceIte, and_self, decide_true, decide_false, beq_self_eq_true, h11, h12, dec_ge (Nat.le_refl k)]
        have : (encF k fun j => if j < k then addW f (x j) else x j) = encF k (addF f x) := encF_congr fun j hj => by rw [if_pos hj]; simp [addF, h6]
        rw [this]
        exact hK
  · obtain ⟨s, rfl⟩ : ∃ s, f = s + 6 := ⟨f - 6, by omega⟩
    have hs : s < n := by omega
    have hp := Nat.two_pow_pos s
    have hp3 : 2 ^ s ≤ 8 := two_pow_le (b := 3) (by omega)
    have e0 : IntKind.i64.wrap (((s + 6 : Nat) : Int) - 6) = (s : Int) := by rw [wrap_i64 _ (by omega) (by omega)]; omega
    have e1 : IntKind.i64.wrap ((1 : Int) * 2 ^ (min (Int.toNat (s : Int)) 64)) = ((2 ^ s : Nat) : Int) := by
      rw [Int.toNat_natCast, Nat.min_eq_left (by omega), show ((1 : Int) * 2 ^ s) = ((2 ^ s : Nat) : Int) by simp, wrap_i64 _ (by omega) (by omega)]
    simp only [go_sem, Nat.reduceEqDiff, Nat.reduceAdd, Nat.reduceLT, Nat.reduceLeDiff, reduceIte, and_self, decide_true, decide_false, beq_self_eq_true, decide_eq_false (show ¬ ((s + 6 : Nat) : Int) < 6 by omega), e0, decide_eq_false (show ¬ (s : Int) < 0 by omega), e1, hb]
    refine WL_inv (α := Nat) (fun k e m => e 0 = .ref id 0 W ∧ e 6 = I64 (2 ^ s : Nat) ∧ e 35 = I64 W ∧ e 36 = I64 k ∧ k ≤ W ∧ m = ⟨blks.set id (.live (encF W fun j => if j.testBit s then (if j < k then x j ||| x (j - 2 ^ s) else x j) else (if j + 2 ^ s < k then 0 else x j)) 1), toks⟩) (fun k => W - k) 0 ?_ ?_
    · simp only [go_sem, Nat.reduceEqDiff, Nat.reduceAdd, Nat.reduceLT, Nat.reduceLeDiff, reduceIte, and_self, decide_true, decide_false, beq_self_eq_true]
      refine ⟨trivial, trivial, trivial, rfl, by omega, ?_⟩
      congr 1
      exact hstart _ fun j hj => by simp
    · rintro k e m ⟨h0, h6', h35, h36, hk, rfl⟩
      by_cases hlt : k < W
      · have hw : IntKind.i64.wrap ((k : Int) + 1) = ((k + 1 : Nat) : Int) := by rw [wrap_i64 _ (by omega) (by omega)]; rfl
        have hc : decide (((0 : Int) ≤ (k : Int) ∧ (k : Int) < (W : Int)) ∧ True) = true := decide_eq_true ⟨⟨by omega, by omega⟩, trivial⟩
        have e2 : andI .i64 (k : Int) ((2 ^ s : Nat) : Int) = (((k.testBit s).toNat * 2 ^ s : Nat) : Int) := by
          rw [andI_nat64 _ _ (by omega) (by omega), and_pow k (by omega) s (by omega)]
        simp only [go_sem, Nat.reduceEqDiff, Nat.reduceAdd, Nat.reduceLT, Nat.reduceLeDiff, reduceIte, and_self, decide_true, decide_false, beq_self_eq_true, h0, h6', h35, h36, dec_lt hlt, e2]
        cases hbit : k.testBit s
        · simp only [go_sem, Nat.reduceEqDiff, Nat.reduceAdd, Nat.reduceLT, Nat.reduceLeDiff, reduceIte, and_self, decide_true, decide_false, beq_self_eq_true, Bool.toNat_false, Nat.zero_mul, show (((0 : Nat) : Int) != 0) = false from rfl, h0, h6', h35, h36, hw]
          refine Nx_of (k + 1) (by omega) ?_
          simp only [go_sem, Nat.reduceEqDiff, Nat.reduceAdd, Nat.reduceLT, Nat.reduceLeDiff, reduceIte, and_self, decide_true, decide_false, beq_self_eq_true, h0, h6', h35, h36]
          refine ⟨trivial, trivial, trivial, trivial, by omega, ?_⟩
          congr 3
          exact encF_congr fun j hj => by
            by_cases hjb : j.testBit s = true
            · have : j ≠ k := fun h => by rw [h, hbit] at hjb; cases hjb
              simp only [hjb, if_true]
              by_cases h3 : j < k
              · rw [if_pos h3, if_pos (by omega)]
              · rw [if_neg h3, if_neg (by omega)]
            · have hjb' : j.testBit s = false := by simpa using hjb
              simp only [hjb', Bool.false_eq_true, if_false]
              have : j + 2 ^ s ≠ k := fun h => by
                have h4 := Nat.testBit_two_pow_add_eq j s
                rw [Nat.add_comm, h, hbit] at h4
                simp [hjb'] at h4
              by_cases h3 : j + 2 ^ s < k
              · rw [if_pos h3, if_pos (by omega)]
              · rw [if_neg h3, if_neg (by omega)]
        · have hge : 2 ^ s ≤ k := Nat.ge_two_pow_of_testBit hbit
          have hb2 : (k - 2 ^ s).testBit s = false := by
            have h4 := Nat.testBit_two_pow_add_eq (k - 2 ^ s) s
            rw [show 2 ^ s + (k - 2 ^ s) = k by omega, hbit] at h4
            simpa using h4
          have e3 : IntKind.i64.wrap ((k : Int) - ((2 ^ s : Nat) : Int)) = ((k - 2 ^ s : Nat) : Int) := by rw [wrap_i64 _ (by omega) (by omega)]; omega
          have hc2 : decide (((0 : Int) ≤ ((k - 2 ^ s : Nat) : Int) ∧ ((k - 2 ^ s : Nat) : Int) < (W : Int)) ∧ True) = true := decide_eq_true ⟨⟨by omega, by omega⟩, trivial⟩
          have e4 : ((((true).toNat * 2 ^ s : Nat) : Int) != 0) = true := by
            rw [show (true).toNat * 2 ^ s = 2 ^ s by simp]
            exact bne_iff_ne.2 (by omega)
          have e5 : orI .u64 (x k : Int) (x (k - 2 ^ s) : Int) = ((x k ||| x (k - 2 ^ s) : Nat) : Int) := orI_u64 _ _ (hx _) (hx _)
          simp only [go_sem, Nat.reduceEqDiff, Nat.reduceAdd, Nat.reduceLT, Nat.reduceLeDiff, reduceIte, and_self, decide_true, decide_false, beq_self_eq_true, e4, h0, h6', h35, h36, hg, hc, hc2, e3, Int.toNat_natCast, Nat.zero_add, encF_get W _ k hlt, encF_get W _ (k - 2 ^ s) (by omega), hbit, hb2, Nat.lt_irrefl, show ¬ (k - 2 ^ s + 2 ^ s < k) by omega, Bool.false_eq_true, e5, encF_set, List.set_set, hw]
          refine Nx_of (k + 1) (by omega) ?_
          simp only [go_sem, Nat.reduceEqDiff, Nat.reduceAdd, Nat.reduceLT, Nat.reduceLeDiff, reduceIte, and_self, decide_true, decide_false, beq_self_eq_true, h0, h6', h35, h36]
          refine ⟨trivial, trivial, trivial, trivial, by omega, ?_⟩
          congr 3
          refine (encF_set W _ (k - 2 ^ s) 0).trans (encF_congr fun j hj => ?_)
          · by_cases h1 : j = k - 2 ^ s
            · have h2 : j.testBit s = false := by rw [h1]; exact hb2
              simp only [h1, if_true]
              rw [← h1, h2]
              simp only [Bool.false_eq_true, if_false]
              rw [if_pos (by omega)]
            · simp only [h1, if_false]
              by_cases h2 : j = k
              · subst h2; simp [hbit]
              · simp only [h2, if_false]
                by_cases hjb : j.testBit s = true
                · simp only [hjb, if_true]
                  by_cases h3 : j < k
                  · rw [if_pos h3, if_pos (by omega)]
                  · rw [if_neg h3, if_neg (by omega)]
                · have hjb' : j.testBit s = false := by simpa using hjb
                  simp only [hjb', Bool.false_eq_true, if_false]
                  by_cases h3 : j + 2 ^ s < k
                  · rw [if_pos h3, if_pos (by omega)]
                  · rw [if_neg h3, if_neg (by omega)]
      · obtain rfl : k = W := by omega
        simp only [go_sem, Nat.reduceEqDiff, Nat.reduceAdd, Nat.reduceLT, Nat.reduceLeDiff, reduceIte, and_self, decide_true, decide_false, beq_self_eq_true, h35, h36, dec_ge (Nat.le_refl k)]
        have : (encF k fun j => if j.testBit s then (if j < k then x j ||| x (j - 2 ^ s) else x j) else (if j + 2 ^ s < k then 0 else x j)) = encF k (addF (s + 6) x) := encF_congr fun j hj => by
          simp only [addF, show ¬ s + 6 < 6 by omega, if_false, hj, if_true, Nat.add_sub_cancel]
          by_cases hjb : j.testBit s = true
          · simp [hjb]
          · have hjb' : j.testBit s = false := by simpa using hjb
            simp only [hjb', Bool.false_eq_true, if_false]
            rw [if_pos (by rw [hW] at hj ⊢; exact no_bit n (by omega) s hs j hj hjb')]
        rw [this]
        exact hK
end Go.Ab.T
end

section
namespace Go.Ab.T
set_option maxRecDepth 8000
set_option linter.unusedSimpArgs false
abbrev Fam := Nat → Nat
def stepT (lo first : Nat) (p : Fam × Fam) (foot : Nat) : Fam × Fam := (addF foot p.1, if lo ≤ foot - first + 1 then fun j => p.2 j ||| addF foot p.1 j else p.2)
def innerT (lo first : Nat) (x all : Fam) (c : Nat) : Fam × Fam := (List.range' first c).foldl (stepT lo first) (x, all)
def tornF (fr to lo hi : Nat) (x : Fam) : Fam := (List.range' fr (to + 1 - fr)).foldl (fun all first => (innerT lo first x all (min (to + 1 - first) hi)).2) (if lo = 0 then x else fun _ => 0)
def F64 (x : Fam) : Prop := ∀ j, B64 (x j)
theorem F64.step {lo first foot : Nat} {p : Fam × Fam} (h1 : F64 p.1) (h2 : F64 p.2) : F64 (stepT lo first p foot).1 ∧ F64 (stepT lo first p foot).2 := by
  refine ⟨addF_lt h1, ?_⟩
  unfold stepT
  dsimp only
  split
  · exact fun j => bound_or (h2 j) (addF_lt h1 j)
  · exact h2
theorem F64.inner {lo first : Nat} : ∀ (l : List Nat) {p : Fam × Fam}, F64 p.1 → F64 p.2 → F64 (l.foldl (stepT lo first) p).1 ∧ F64 (l.foldl (stepT lo first) p).2
  | [], p, h1, h2 => ⟨h1, h2⟩
  | a :: l, p, h1, h2 => F64.inner l (F64.step h1 h2).1 (F64.step h1 h2).2
theorem F64.torn {fr to lo hi : Nat} {x : Fam} (h : F64 x) : F64 (tornF fr to lo hi x) := by
  unfold tornF
  have h0 : F64 (if lo = 0 then x else fun _ => 0) := by split; exact h; exact fun _ => (by decide : B64 0)
  revert h0
  generalize (if lo = 0 then x else fun _ => 0) = a
  generalize List.range' fr (to + 1 - fr) = l
  induction l generalizing a with
  | nil => exact id
  | cons f l ih => intro ha; exact ih _ (F64.inner _ h ha).2
/-- What stands in the memory of torn. -/
abbrev mT (m : Mk) (W : Nat) (all now : Fam) : Mem := ⟨[.live [encM m] 5, .live (encF W all) 1, .live (encF W now) 1], []⟩
theorem torn_ok {W n fr to lo hi : Nat} {x : Fam} {m : Mk} (hW : W = 2 ^ n) (hn : n ≤ 3) (hfr : m.fr = fr) (hto : m.to = to) (hlo : m.lo = lo) (hhi : m.hi = hi) (h1 : fr ≤ to) (h2 : to < n + 6) (h3 : lo ≤ hi) (h4 : hi ≤ 16) (hx : F64 x)
    (K : AV → Mem → Prop) (hK : ∀ now, K (.ref 1 0 W) (mT m W (tornF fr to lo hi x) now)) : WR ft (.f 93) [.sl (encF W x) .unk, encM m] .nil K := by
  have hW8 : W ≤ 8 := by rw [hW]; exact two_pow_le (b := 3) hn
  have hW1 : 1 ≤ W := by rw [hW]; exact Nat.two_pow_pos n
  rw [WR_f ft93 rfl]
  simp only [c93, r93]
  have hmk1 : ((0 : Int) ≤ (W : Int)) = True := eq_true (by omega)
  have hmk2 : (W * 9 ≤ limit) = True := eq_true (by simp only [limit]; omega)
  have hcpy : ∀ b0 all now, copyAt ⟨[b0, .live (encF W all) 1, .live (encF W now) 1], []⟩ (.ref 2 0 W) (.sl (encF W x) .unk) 1 = some (I64 W, ⟨[b0, .live (encF W all) 1, .live (encF W x) 1], []⟩) := by
    intro b0 all now
    simp only [copyAt, Mem.elems, List.getElem?_cons_succ, List.getElem?_cons_zero, encF_len, encF_hd, Nat.zero_add, Nat.le_refl, and_self, if_true, Nat.min_self, List.take_zero, List.nil_append, List.set_cons_succ, List.set_cons_zero]
    rw [List.take_of_length_le (by rw [encF_len]; omega), List.drop_of_length_le (by rw [encF_len]; omega), List.append_nil]
  simp only [go_sem, Nat.reduceEqDiff, Nat.reduceAdd, Nat.reduceLT, Nat.reduceLeDiff, reduceIte, and_self, decide_true, decide_false, beq_self_eq_true, encF_len, hmk1, hmk2, Int.toNat_natCast, true_and, encF_zero, hlo]
  have hz : F64 fun _ => 0 := fun _ => (by decide : B64 0)
  have h0or : (encF W fun j => 0 ||| x j) = encF W x := encF_congr fun j _ => by simp
  have ha0 : F64 (if lo = 0 then x else fun _ => 0) := by split; exact hx; exact hz
  refine Cs_of (fun hc => ?_) fun hc => ?_
  case' refine_1 =>
    have hl0 : lo = 0 := by simpa using hc
    simp only [go_sem, Nat.reduceEqDiff, Nat.reduceAdd, Nat.reduceLT, Nat.reduceLeDiff, reduceIte, and_self, decide_true, decide_false, beq_self_eq_true, WB94]
    refine join_ok hW8 hz hx rfl (Or.inl ⟨_, rfl⟩) _ ?_
    simp only [go_sem, Nat.reduceEqDiff, Nat.reduceAdd, Nat.reduceLT, Nat.reduceLeDiff, reduceIte, and_self, decide_true, decide_false, beq_self_eq_true, encF_len, hmk1, hmk2, Int.toNat_natCast, true_and, encF_zero, h0or, hfr]
    have hall : encF W (if lo = 0 then x else fun _ => 0) = encF W x := by rw [if_pos hl0]
  case' refine_2 =>
    have hl0 : lo ≠ 0 := by simpa using hc
    simp only [go_sem, Nat.reduceEqDiff, Nat.reduceAdd, Nat.reduceLT, Nat.reduceLeDiff, reduceIte, and_self, decide_true, decide_false, beq_self_eq_true, encF_len, hmk1, hmk2, Int.toNat_natCast, true_and, encF_zero, hfr]
    have hall : encF W (if lo = 0 then x else fun _ => 0) = encF W fun _ => 0 := by rw [if_neg hl0]
  all_goals
    refine WL_inv (α := Nat × Fam × Fam) (fun a e mm => e 0 = .sl (encF W x) .unk ∧ e 3 = .ptr 0 0 0 ∧ e 5 = .ref 1 0 W ∧ e 6 = .ref 2 0 W ∧ e 7 = I64 a.1 ∧ fr ≤ a.1 ∧ a.1 ≤ to + 1 ∧ mm = mT m W a.2.1 a.2.2 ∧ F64 a.2.1 ∧
      (List.range' a.1 (to + 1 - a.1)).foldl (fun all first => (innerT lo first x all (min (to + 1 - first) hi)).2) a.2.1 = tornF fr to lo hi x) (fun a => to + 1 - a.1) (fr, (if lo = 0 then x else fun _ => 0), fun _ => 0) ?_ ?_
    · simp only [go_sem, Nat.reduceEqDiff, Nat.reduceAdd, Nat.reduceLT, Nat.reduceLeDiff, reduceIte, and_self, decide_true, decide_false, beq_self_eq_true, hall]
      exact ⟨trivial, trivial, trivial, trivial, trivial, Nat.le_refl _, by omega, by simp only [mT, hall], ha0, rfl⟩
    · rintro ⟨first, all, now⟩ e mm ⟨g0, g3, g5, g6, g7, hf1, hf2, rfl, hall, hfold⟩
      dsimp only at g7 hf1 hf2 hall hfold
      simp only [go_sem, Nat.reduceEqDiff, Nat.reduceAdd, Nat.reduceLT, Nat.reduceLeDiff, reduceIte, and_self, decide_true, decide_false, beq_self_eq_true, g0, g3, g5, g6, g7, mT, hto]
      refine Cs_dec (fun hle => ?_) fun hgt => ?_
      · generalize hcn : min (to + 1 - first) hi = c at *
        have e1 : min (to : Int) (IntKind.i64.wrap (IntKind.i64.wrap ((first : Int) + (hi : Int)) - 1)) = (first : Int) + c - 1 := by
          rw [wrap_i64 ((first : Int) + hi) (by omega) (by omega), wrap_i64 _ (by omega) (by omega)]; omega
        simp only [go_sem, Nat.reduceEqDiff, Nat.reduceAdd, Nat.reduceLT, Nat.reduceLeDiff, reduceIte, and_self, decide_true, decide_false, beq_self_eq_true, g0, g3, g5, g6, g7, hcpy, hto, hhi, e1]
        refine WL_inv (α := Nat × Fam × Fam) (fun a e mm => e 0 = .sl (encF W x) .unk ∧ e 3 = .ptr 0 0 0 ∧ e 5 = .ref 1 0 W ∧ e 6 = .ref 2 0 W ∧ e 7 = I64 first ∧ e 8 = I64 ((first : Int) + c - 1) ∧ e 9 = I64 a.1 ∧ first ≤ a.1 ∧ a.1 ≤ first + c ∧ mm = mT m W a.2.1 a.2.2 ∧ F64 a.2.1 ∧ F64 a.2.2 ∧
          (List.range' a.1 (first + c - a.1)).foldl (stepT lo first) (a.2.2, a.2.1) = innerT lo first x all c) (fun a => first + c - a.1) (first, all, x) ?_ ?_
        · simp only [go_sem, Nat.reduceEqDiff, Nat.reduceAdd, Nat.reduceLT, Nat.reduceLeDiff, reduceIte, and_self, decide_true, decide_false, beq_self_eq_true, g0, g3, g5, g6, g7]
          refine ⟨trivial, trivial, trivial, trivial, trivial, trivial, trivial, Nat.le_refl _, by omega, trivial, hall, hx, ?_⟩
          rw [show first + c - first = c by omega]; rfl
        · rintro ⟨foot, all', now'⟩ e mm ⟨g0, g3, g5, g6, g7, g8, g9, hk1, hk2, rfl, ha', hn', hin⟩
          dsimp only at g9 hk1 hk2 ha' hn' hin
          simp only [go_sem, Nat.reduceEqDiff, Nat.reduceAdd, Nat.reduceLT, Nat.reduceLeDiff, reduceIte, and_self, decide_true, decide_false, beq_self_eq_true, g0, g3, g5, g6, g7, g8, g9, mT]
          refine Cs_dec (fun hle2 => ?_) fun hgt2 => ?_
          · have hw : IntKind.i64.wrap ((foot : Int) + 1) = ((foot + 1 : Nat) : Int) := by rw [wrap_i64 _ (by omega) (by omega)]; rfl
            have e2 : IntKind.i64.wrap (IntKind.i64.wrap ((foot : Int) - (first : Int)) + 1) = ((foot - first + 1 : Nat) : Int) := by
              rw [wrap_i64 ((foot : Int) - first) (by omega) (by omega), wrap_i64 _ (by omega) (by omega)]; omega
            rw [show first + c - foot = (first + c - (foot + 1)) + 1 by omega, List.range'_succ, List.foldl_cons] at hin
            simp only [go_sem, Nat.reduceEqDiff, Nat.reduceAdd, Nat.reduceLT, Nat.reduceLeDiff, reduceIte, and_self, decide_true, decide_false, beq_self_eq_true, g0, g3, g5, g6, g7, g8, g9, WB104]
            refine add_ok (x := now') hW hn (by omega) hn' rfl _ ?_
            simp only [go_sem, Nat.reduceEqDiff, Nat.reduceAdd, Nat.reduceLT, Nat.reduceLeDiff, reduceIte, and_self, decide_true, decide_false, beq_self_eq_true, g0, g3, g5, g6, g7, g8, g9, e2, hlo, WB94]
            refine Cs_dec (fun hge => ?_) fun hlt => ?_
            · simp only [go_sem, Nat.reduceEqDiff, Nat.reduceAdd, Nat.reduceLT, Nat.reduceLeDiff, reduceIte, and_self, decide_true, decide_false, beq_self_eq_true, g0, g3, g5, g6, g7, g8, g9, WB94]
              refine join_ok (x := all') (y := addF foot now') hW8 ha' (addF_lt hn') rfl (Or.inr ⟨2, rfl, rfl, by decide⟩) _ ?_
              simp only [go_sem, Nat.reduceEqDiff, Nat.reduceAdd, Nat.reduceLT, Nat.reduceLeDiff, reduceIte, and_self, decide_true, decide_false, beq_self_eq_true, g0, g3, g5, g6, g7, g8, g9, hw]
              refine Nx_of (foot + 1, (fun j => all' j ||| addF foot now' j), addF foot now') (by simp; omega) ?_
              simp only [go_sem, Nat.reduceEqDiff, Nat.reduceAdd, Nat.reduceLT, Nat.reduceLeDiff, reduceIte, and_self, decide_true, decide_false, beq_self_eq_true, g0, g3, g5, g6, g7, g8]
              refine ⟨trivial, trivial, trivial, trivial, trivial, trivial, trivial, by omega, by omega, trivial, fun j => bound_or (ha' j) (addF_lt hn' j), addF_lt hn', ?_⟩
              rw [← hin]
              simp only [stepT, show lo ≤ foot - first + 1 by omega, if_true]
            · simp only [go_sem, Nat.reduceEqDiff, Nat.reduceAdd, Nat.reduceLT, Nat.reduceLeDiff, reduceIte, and_self, decide_true, decide_false, beq_self_eq_true, g0, g3, g5, g6, g7, g8, g9, hw]
              refine Nx_of (foot + 1, all', addF foot now') (by simp; omega) ?_
              simp only [go_sem, Nat.reduceEqDiff, Nat.reduceAdd, Nat.reduceLT, Nat.reduceLeDiff, reduceIte, and_self, decide_true, decide_false, beq_self_eq_true, g0, g3, g5, g6, g7, g8]
              refine ⟨trivial, trivial, trivial, trivial, trivial, trivial, trivial, by omega, by omega, trivial, ha', addF_lt hn', ?_⟩
              rw [← hin]
              simp only [stepT, show ¬ lo ≤ foot - first + 1 by omega, if_false]
          · obtain rfl : foot = first + c := by omega
            have hw : IntKind.i64.wrap ((first : Int) + 1) = ((first + 1 : Nat) : Int) := by rw [wrap_i64 _ (by omega) (by omega)]; rfl
            simp only [go_sem, Nat.reduceEqDiff, Nat.reduceAdd, Nat.reduceLT, Nat.reduceLeDiff, reduceIte, and_self, decide_true, decide_false, beq_self_eq_true, g0, g3, g5, g6, g7, hw]
            refine Nx_of (first + 1, all', now') (by simp; omega) ?_
            simp only [go_sem, Nat.reduceEqDiff, Nat.reduceAdd, Nat.reduceLT, Nat.reduceLeDiff, reduceIte, and_self, decide_true, decide_false, beq_self_eq_true, g0, g3, g5, g6]
            refine ⟨trivial, trivial, trivial, trivial, trivial, by omega, by omega, trivial, ha', ?_⟩
            rw [show to + 1 - first = (to + 1 - (first + 1)) + 1 by omega, List.range'_succ, List.foldl_cons] at hfold
            rw [← hfold]
            simp only [Nat.sub_self, List.range'_zero, List.foldl_nil] at hin
            rw [hcn, ← hin]
      · obtain rfl : first = to + 1 := by omega
        simp only [go_sem, Nat.reduceEqDiff, Nat.reduceAdd, Nat.reduceLT, Nat.reduceLeDiff, reduceIte, and_self, decide_true, decide_false, beq_self_eq_true, g5]
        simp only [Nat.sub_self, List.range'_zero, List.foldl_nil] at hfold
        rw [hfold]
        exact hK now
end Go.Ab.T
end

section
namespace Go.Ab.T
set_option maxRecDepth 8000
set_option linter.unusedSimpArgs false
set_option linter.unusedVariables false
theorem get_app {α : Type} {l L : List α} {j : Nat} {x : α} (h : l[j]? = some x) : (l ++ L)[j]? = some x := by
  have := (List.getElem?_eq_some_iff.1 h).1
  rw [List.getElem?_append_left this]; exact h
theorem back_prod {id b sid N : Nat} {J : Nat → Mem → Prop} (hN : N < 1000) (hJ : ∀ k m, J k m → m.blks[b]? = some (.live [.ref sid 0 N] 1) ∧ ∃ es, m.blks[sid]? = some (.live es 1) ∧ es.length = N ∧ ∀ e ∈ es, e.isAgg' = false)
    (hy : ∀ k m K' v, k < N → J (k + 1) m → (∀ m', J k m' → K' (.bool true) m') → WR ft (.y id) [I64 k, v] m K')
    (m : Mem) (h0 : J N m) (K : AV → Mem → Prop) (hK : ∀ m, J 0 m → K (.tup []) m) : WR ft (.f 103) [.yld id, .ptr b 0 0] m K := by
  obtain ⟨hb, es, hs, hes, hag⟩ := hJ _ _ h0
  rw [WR_f ft103 rfl]
  simp only [c103, r103]
  simp only [go_sem, Nat.reduceEqDiff, Nat.reduceAdd, Nat.reduceLT, Nat.reduceLeDiff, reduceIte, and_self, decide_true, decide_false, beq_self_eq_true, hb, hs]
  refine WL_inv (α := Nat) (fun k e m => e 0 = .yld id ∧ e 1 = .ptr b 0 0 ∧ e 3 = I64 ((k : Int) - 1) ∧ k ≤ N ∧ J k m) (fun k => k) N ?_ ?_
  · simp only [go_sem, Nat.reduceEqDiff, Nat.reduceAdd, Nat.reduceLT, Nat.reduceLeDiff, reduceIte, and_self, decide_true, decide_false, beq_self_eq_true]
    exact ⟨trivial, trivial, by rw [wrap_i64 _ (by omega) (by omega)], Nat.le_refl _, h0⟩
  · rintro k e m ⟨h1, h2, h3, hk, hj⟩
    obtain ⟨hb, es, hs, hes, hag⟩ := hJ _ _ hj
    obtain ⟨blks, toks⟩ := m
    dsimp only at hb hs
    cases k with
    | zero =>
      simp only [go_sem, Nat.reduceEqDiff, Nat.reduceAdd, Nat.reduceLT, Nat.reduceLeDiff, reduceIte, and_self, decide_true, decide_false, beq_self_eq_true, h3, show decide ((0 : Int) ≤ ((0 : Nat) : Int) - 1) = false from rfl]
      exact hK _ hj
    | succ k =>
      have e1 : (((k + 1 : Nat) : Int) - 1) = (k : Int) := by omega
      have hkN : k < es.length := by omega
      obtain ⟨x, hx⟩ : ∃ x, es[k]? = some x := ⟨es[k], by simp [hkN]⟩
      have hc : decide (((0 : Int) ≤ (k : Int) ∧ (k : Int) < (N : Int)) ∧ True) = true := decide_eq_true ⟨⟨by omega, by omega⟩, trivial⟩
      have hcx : x.cells = [x] := by
        have := hag x (List.mem_of_getElem? hx)
        cases x <;> first | rfl | cases this
      have e2 : IntKind.i64.wrap ((k : Int) - 1) = (k : Int) - 1 := wrap_i64 _ (by omega) (by omega)
      simp only [go_sem, Nat.reduceEqDiff, Nat.reduceAdd, Nat.reduceLT, Nat.reduceLeDiff, reduceIte, and_self, decide_true, decide_false, beq_self_eq_true, h1, h2, h3, e1, dec_nn, hb, hs, hc, Int.toNat_natCast, Nat.zero_add, hx, hcx]
      refine hy k _ _ _ (by omega) hj fun m' hj' => ?_
      simp only [go_sem, Nat.reduceEqDiff, Nat.reduceAdd, Nat.reduceLT, Nat.reduceLeDiff, reduceIte, and_self, decide_true, decide_false, beq_self_eq_true, h1, h2, h3, e1, e2]
      refine Nx_of k (by omega) ?_
      simp only [go_sem, Nat.reduceEqDiff, Nat.reduceAdd, Nat.reduceLT, Nat.reduceLeDiff, reduceIte, and_self, decide_true, decide_false, beq_self_eq_true, h1, h2]
      exact ⟨trivial, trivial, trivial, by omega, hj'⟩
/-- What a tear makes of the families, for each number of dropped tears. -/
def stepK (fr to lo hi : Nat) (fs : Nat → Fam) : Nat → Fam
  | 0 => tornF fr to lo hi (fs 0)
  | i + 1 => fun j => tornF fr to lo hi (fs (i + 1)) j ||| fs i j
def stepM (fs : Nat → Fam) (m : Mk) : Nat → Fam := stepK m.fr.toNat m.to.toNat m.lo.toNat m.hi.toNat fs
def fs0 : Nat → Fam := fun i j => if i = 0 ∧ j = 0 then 1 else 0
def takenF (ts : List Mk) : Nat → Fam := ts.foldl stepM fs0
def okTear (n : Nat) (m : Mk) : Prop := 0 ≤ m.fr ∧ m.fr ≤ m.to ∧ m.to < ((n + 6 : Nat) : Int) ∧ 0 ≤ m.lo ∧ m.lo ≤ m.hi ∧ m.hi ≤ 16
/-- The memory of taken. -/
structure TkM (r : Rl) (N W : Nat) (fs : Nat → Fam) (blks : List Blk) : Prop where
  b0 : blks[0]? = some (.live [encR r] 2)
  b2 : blks[2]? = some (.live [.ref 1 0 N] 1)
  ids : ∃ ids : Nat → Nat, blks[1]? = some (.live ((List.range N).map fun k => .ref (ids k) 0 W) 1) ∧ ∀ k, k < N → 3 ≤ ids k ∧ blks[ids k]? = some (.live (encF W (fs k)) 1)
theorem TkM.app {r : Rl} {N W : Nat} {fs : Nat → Fam} {blks : List Blk} (h : TkM r N W fs blks) (L : List Blk) : TkM r N W fs (blks ++ L) := by
  obtain ⟨ids, h1, h2⟩ := h.ids
  exact ⟨get_app h.b0, get_app h.b2, ids, get_app h1, fun k hk => ⟨(h2 k hk).1, get_app (h2 k hk).2⟩⟩
/-- Another block than those of the families may change. -/
theorem TkM.set {r : Rl} {N W : Nat} {fs : Nat → Fam} {blks : List Blk} (h : TkM r N W fs blks) {i : Nat} (b : Blk) (hi : ∀ es sz, blks[i]? ≠ some (.live es sz)) : TkM r N W fs (blks.set i b) := by
  have key : ∀ {j : Nat} {x : Blk}, blks[j]? = some x → (∃ es sz, x = .live es sz) → (blks.set i b)[j]? = some x := by
    intro j x hj ⟨es, sz, hx⟩
    rw [List.getElem?_set_ne]
    · exact hj
    · rintro rfl; exact hi es sz (hx ▸ hj)
  obtain ⟨ids, h1, h2⟩ := h.ids
  exact ⟨key h.b0 ⟨_, _, rfl⟩, key h.b2 ⟨_, _, rfl⟩, ids, key h1 ⟨_, _, rfl⟩, fun k hk => ⟨(h2 k hk).1, key (h2 k hk).2 ⟨_, _, rfl⟩⟩⟩
theorem join_mT (blks : List Blk) (m : Mk) (W : Nat) (a b : Fam) : joinMem ⟨blks, []⟩ (mT m W a b) 9 = ⟨blks ++ [.live [encM m] 5, .live (encF W a) 1, .live (encF W b) 1], []⟩ := by
  have : ∀ x, (encF W x).map (shift blks.length 0 9) = encF W x := fun x => by unfold encF; rw [List.map_map]; rfl
  simp only [joinMem, mT, List.map_cons, List.map_nil, shiftB, this, List.length_nil, List.append_nil]
  rfl
theorem own_mT (m : Mk) (W : Nat) (a b : Fam) : (mT m W a b).blks.all Blk.ownly = true := by
  have : ∀ x, (encF W x).all (ownly 8) = true := fun x => by
    rw [List.all_eq_true]
    intro e he
    obtain ⟨j, _, rfl⟩ := List.mem_map.1 he
    rfl
  simp only [mT, List.all_cons, List.all_nil, Blk.ownly, this, Bool.and_true]
  rfl
/-- A round of taken: a tear, for one number of dropped tears. -/
theorem range_get (N : Nat) (f : Nat → AV) (k : Nat) (h : k < N) : ((List.range N).map f)[k]? = some (f k) := by simp [h]
theorem range_set (N : Nat) (f : Nat → AV) (k : Nat) (v : AV) : ((List.range N).map f).set k v = (List.range N).map fun j => if j = k then v else f j := by
  apply List.ext_getElem?
  intro i
  rw [List.getElem?_set]
  simp only [List.length_map, List.length_range]
  by_cases hi : i < N
  · rw [range_get _ _ _ hi, range_get _ _ _ hi]
    by_cases hk : k = i
    · subst hk; simp [hi]
    · have : ¬ i = k := fun h => hk h.symm
      simp [hk, this]
  · have h1 : ∀ f : Nat → AV, ((List.range N).map f)[i]? = none := fun f => by rw [List.getElem?_eq_none]; simp; omega
    rw [h1, h1]
    split
    · split
      · omega
      · rfl
    · rfl
end Go.Ab.T
end

section
namespace Go.Ab.T
set_option maxRecDepth 8000
set_option linter.unusedSimpArgs false
set_option linter.unusedVariables false
def body79 : ACode := .block 5 (.seq (.region [⟨(some 41), none, .load (.t 5) none⟩,
    ⟨(some 42), none, .mov (.t 9)⟩,
    ⟨(some 43), none, .idx (.t 41) (.t 42) 1⟩,
    ⟨(some 44), none, .load (.t 43) none⟩,
    ⟨(some 45), none, .load (.t 8) (some 5)⟩,
    ⟨(some 46), none, .call 93 [(.t 44), (.t 45)]⟩,
    ⟨(some 10), none, .mov (.t 46)⟩])
  (.seq (.seq (.region [⟨(some 47), none, .mov (.t 9)⟩,
    ⟨(some 48), none, .bin .gtr (.t 47) (.c (.int .i64 0))⟩])
  (.cond (.t 48) (.region [⟨(some 49), none, .mov (.t 10)⟩,
    ⟨(some 50), none, .load (.t 5) none⟩,
    ⟨(some 51), none, .mov (.t 9)⟩,
    ⟨(some 52), none, .bin .sub (.t 51) (.c (.int .i64 1))⟩,
    ⟨(some 53), none, .idx (.t 50) (.t 52) 1⟩,
    ⟨(some 54), none, .load (.t 53) none⟩,
    ⟨(some 55), none, .call 94 [(.t 49), (.t 54)]⟩])
  (.skip)))
  (.region [⟨(some 56), none, .load (.t 5) none⟩,
    ⟨(some 57), none, .mov (.t 9)⟩,
    ⟨(some 58), none, .mov (.t 10)⟩,
    ⟨(some 59), none, .idx (.t 56) (.t 57) 1⟩,
    ⟨none, none, .store (.t 59) (.t 58) 1⟩])))
def asg79 : ACode := .region [⟨(some 9), none, .mov (.t 39)⟩]
theorem backward_ok {sid N : Nat} {blks : List Blk} {toks : List (Nat × Nat)} (K : AV → Mem → Prop) (hK : K (.fn 103 [] [.ptr blks.length 0 0]) ⟨blks ++ [.live [.ref sid 0 N] 1], toks⟩) : WR ft (.f 92) [.ref sid 0 N] ⟨blks, toks⟩ K := by
  rw [WR_f ft92 rfl]
  simp only [c92, r92]
  simp only [go_sem, Nat.reduceEqDiff, Nat.reduceAdd, Nat.reduceLT, Nat.reduceLeDiff, reduceIte, and_self, decide_true, decide_false, beq_self_eq_true]
  exact hK
theorem join_F (blks : List Blk) (W : Nat) (x : Fam) : joinMem ⟨blks, []⟩ ⟨[.live (encF W x) 1], []⟩ 9 = ⟨blks ++ [.live (encF W x) 1], []⟩ := by
  have : (encF W x).map (shift blks.length 0 9) = encF W x := by unfold encF; rw [List.map_map]; rfl
  simp only [joinMem, List.map_cons, List.map_nil, shiftB, this, List.length_nil, List.append_nil]
theorem own_F (W : Nat) (x : Fam) : (Blk.live (encF W x) 1).ownly = true := by
  show (encF W x).all (ownly 8) = true
  rw [List.all_eq_true]
  intro e he
  obtain ⟨j, _, rfl⟩ := List.mem_map.1 he
  rfl
theorem own_M (m : Mk) : (Blk.live [encM m] 5).ownly = true := rfl
theorem ownly_ref (k a b c : Nat) : ownly (k + 1) (.ref a b c) = true := rfl
theorem shift_ref (a b k id off len : Nat) : shift a b (k + 1) (.ref id off len) = .ref (a + id) off len := rfl
theorem encF_take (W : Nat) (x : Fam) : (encF W x).take W = encF W x := List.take_of_length_le (by rw [encF_len]; omega)
theorem TkM.store {r : Rl} {N W : Nat} {fs : Nat → Fam} {bl : List Blk} {ids : Nat → Nat} (h : TkM r N W fs bl) (hids : bl[1]? = some (.live ((List.range N).map fun k => .ref (ids k) 0 W) 1) ∧ ∀ k, k < N → 3 ≤ ids k ∧ bl[ids k]? = some (.live (encF W (fs k)) 1))
    {q kk : Nat} {z : Fam} (hq : bl[q]? = some (.live (encF W z) 1)) (hq3 : 3 ≤ q) :
    TkM r N W (fun i => if i = kk then z else fs i) (bl.set 1 (.live ((List.range N).map fun j => if j = kk then .ref q 0 W else .ref (ids j) 0 W) 1)) := by
  refine ⟨by rw [List.getElem?_set_ne (by omega)]; exact h.b0, by rw [List.getElem?_set_ne (by omega)]; exact h.b2, fun j => if j = kk then q else ids j, ?_, fun j hj => ?_⟩
  · rw [List.getElem?_set_self (List.getElem?_eq_some_iff.1 hids.1).1]
    congr 2
    exact List.map_congr_left fun j _ => by dsimp only; split <;> rfl
  · dsimp only
    by_cases h : j = kk
    · rw [if_pos h, if_pos h]; exact ⟨hq3, by rw [List.getElem?_set_ne (by omega)]; exact hq⟩
    · rw [if_neg h, if_neg h]; have := hids.2 j hj; exact ⟨this.1, by rw [List.getElem?_set_ne (by omega)]; exact this.2⟩
theorem TkM.congr {r : Rl} {N W : Nat} {fs fs' : Nat → Fam} {bl : List Blk} (h : TkM r N W fs bl) (he : ∀ i, i < N → fs i = fs' i) : TkM r N W fs' bl := by
  obtain ⟨ids, h1, h2⟩ := h.ids
  exact ⟨h.b0, h.b2, ids, h1, fun k hk => ⟨(h2 k hk).1, he k hk ▸ (h2 k hk).2⟩⟩
theorem F64.stepM {fs : Nat → Fam} (h : ∀ i, F64 (fs i)) (m : Mk) : ∀ i, F64 (stepM fs m i)
  | 0 => F64.torn (h 0)
  | i + 1 => fun j => bound_or (F64.torn (h (i + 1)) j) (h i j)
theorem enc_tears (r : Rl) : (tearsL r).map encM = (tearsL r).map encM := rfl
theorem tears_len (r : Rl) : (tearsL r).length ≤ r.marks.length := List.length_filter_le _ _
theorem taken_ok (r : Rl) (L most : Nat) (hL : r.feet = L) (h1 : 1 ≤ L) (h9 : L ≤ 9) (hm : most ≤ 10) (hl : r.marks.length ≤ 10) (ht : ∀ m ∈ tearsL r, okTear (L - 6) m) :
    RV ft 79 [encR r, I64 most] (.sl ((List.range (most + 1)).map fun k => .sl (encF (2 ^ (L - 6)) (takenF (tearsL r) k)) .unk) .unk) := by
  refine RV_of ft79 rfl ?_
  simp only [c79, r79]
  obtain ⟨N, hN⟩ : ∃ N, N = most + 1 := ⟨_, rfl⟩
  obtain ⟨W, hW⟩ : ∃ W, W = 2 ^ (L - 6) := ⟨_, rfl⟩
  have hW8 : W ≤ 8 := by rw [hW]; exact two_pow_le (b := 3) (by omega)
  have hW1 : 1 ≤ W := by rw [hW]; exact Nat.two_pow_pos _
  rw [← hN, ← hW]
  have e1 : IntKind.i64.wrap ((most : Int) + 1) = (N : Int) := by rw [wrap_i64 _ (by omega) (by omega)]; omega
  have m1 : ((0 : Int) ≤ (N : Int)) = True := eq_true (by omega)
  have m2 : (N * 25 ≤ limit) = True := eq_true (by simp only [limit]; omega)
  have hrep : List.replicate N (AV.sl [] .tight) = (List.range N).map fun j => if j < 0 then .ref (j + 3) 0 W else AV.sl [] .tight := by
    simp only [Nat.not_lt_zero, if_false]
    rw [List.map_const', List.length_range]
  simp only [go_sem, Nat.reduceEqDiff, Nat.reduceAdd, Nat.reduceLT, Nat.reduceLeDiff, reduceIte, and_self, decide_true, decide_false, beq_self_eq_true, sn_ms, e1, m1, m2, Int.toNat_natCast, true_and, hrep]
  refine WL_inv (α := Nat) (fun k e mm => e 1 = I64 most ∧ e 2 = .ptr 0 0 0 ∧ e 5 = .ptr 2 0 0 ∧ e 15 = I64 N ∧ e 16 = I64 k ∧ k ≤ N ∧ mm = ⟨[.live [encR r] 2, .live ((List.range N).map fun j => if j < k then .ref (j + 3) 0 W else AV.sl [] .tight) 1, .live [.ref 1 0 N] 1] ++ List.replicate k (.live (encF W fun _ => 0) 1), []⟩) (fun k => N - k) 0 ?_ ?_
  · simp only [go_sem, Nat.reduceEqDiff, Nat.reduceAdd, Nat.reduceLT, Nat.reduceLeDiff, reduceIte, and_self, decide_true, decide_false, beq_self_eq_true, List.replicate_zero]
    exact ⟨trivial, trivial, trivial, trivial, rfl, by omega, trivial⟩
  · rintro k e mm ⟨g1, g2, g5, g15, g16, hk, rfl⟩
    by_cases hlt : k < N
    · have hw : IntKind.i64.wrap ((k : Int) + 1) = ((k + 1 : Nat) : Int) := by rw [wrap_i64 _ (by omega) (by omega)]; rfl
      simp only [go_sem, Nat.reduceEqDiff, Nat.reduceAdd, Nat.reduceLT, Nat.reduceLeDiff, reduceIte, and_self, decide_true, decide_false, beq_self_eq_true, g1, g2, g5, g15, g16, dec_lt hlt, WB91, hL]
      refine newFamily_ok L h9 _ ?_
      rw [← hW]
      have hc : decide (((0 : Int) ≤ (k : Int) ∧ (k : Int) < (N : Int)) ∧ True) = true := decide_eq_true ⟨⟨by omega, by omega⟩, trivial⟩
      have hlen : [Blk.live [encR r] 2, .live ((List.range N).map fun j => if j < k then .ref (j + 3) 0 W else AV.sl [] .tight) 1, .live [.ref 1 0 N] 1].length = 3 := rfl
      simp only [go_sem, Nat.reduceEqDiff, Nat.reduceAdd, Nat.reduceLT, Nat.reduceLeDiff, reduceIte, and_self, decide_true, decide_false, beq_self_eq_true, g1, g2, g5, g15, g16, true_and, join_F, shift_ref, List.length_replicate, Nat.add_zero, hc, range_get N _ k hlt, Int.toNat_natCast, Nat.zero_add, Nat.lt_irrefl, range_set, hw]
      refine Nx_of (k + 1) (by omega) ?_
      simp only [go_sem, Nat.reduceEqDiff, Nat.reduceAdd, Nat.reduceLT, Nat.reduceLeDiff, reduceIte, and_self, decide_true, decide_false, beq_self_eq_true, g1, g2, g5, g15, g16]
      refine ⟨trivial, trivial, trivial, trivial, trivial, by omega, ?_⟩
      rw [List.replicate_succ']
      congr 5
      funext j
      by_cases h : j = k
      · subst h; simp
      · simp only [h, if_false]
        by_cases h3 : j < k
        · rw [if_pos h3, if_pos (by omega)]
        · rw [if_neg h3, if_neg (by omega)]
    · obtain rfl : k = N := by omega
      have hc : decide (((0 : Int) ≤ (0 : Int) ∧ (0 : Int) < (k : Int)) ∧ True) = true := decide_eq_true ⟨⟨by omega, by omega⟩, trivial⟩
      have hc2 : decide (((0 : Int) ≤ (0 : Int) ∧ (0 : Int) < (W : Int)) ∧ True) = true := decide_eq_true ⟨⟨by omega, by omega⟩, trivial⟩
      have hrp : (List.replicate k (Blk.live (encF W fun _ => 0) 1))[0]? = some (.live (encF W fun _ => 0) 1) := by rw [List.getElem?_replicate, if_pos (by omega)]
      simp only [go_sem, Nat.reduceEqDiff, Nat.reduceAdd, Nat.reduceLT, Nat.reduceLeDiff, reduceIte, and_self, decide_true, decide_false, beq_self_eq_true, g1, g2, g5, g15, g16, dec_ge (Nat.le_refl k), hc, hc2, Int.toNat_zero, Nat.zero_add, range_get k _ 0 (show 0 < k by omega), show 0 < k by omega, hrp, encF_get W _ 0 hW1, WB82, sn_ms, WVH_eq (tears_ok r (by omega)), hot_ms, true_and, List.length_map]
      have hT0 : TkM r k W fs0 (.live [encR r] 2 :: .live ((List.range k).map fun j => if j < k then .ref (j + 3) 0 W else AV.sl [] .tight) 1 :: .live [.ref 1 0 k] 1 :: (List.replicate k (.live (encF W fun _ => 0) 1)).set 0 (.live ((encF W fun _ => 0).set 0 (.int .u64 1)) 1)) := by
        refine ⟨rfl, rfl, fun j => j + 3, ?_, fun j hj => ⟨Nat.le_add_left 3 j, ?_⟩⟩
        · show some (Blk.live _ 1) = _
          congr 2
          exact List.map_congr_left fun j hj => by rw [if_pos (List.mem_range.1 hj)]
        · show ((List.replicate k (Blk.live (encF W fun _ => 0) 1)).set 0 _)[j]? = _
          rw [List.getElem?_set]
          by_cases h0 : 0 = j
          · subst h0
            rw [if_pos rfl, if_pos (by simpa using hj)]
            congr 2
            refine (encF_set W _ 0 1).trans (encF_congr fun i hi => ?_)
            simp [fs0]
          · rw [if_neg h0, List.getElem?_replicate, if_pos hj]
            congr 2
            exact encF_congr fun i hi => by simp [fs0]; omega
      generalize hbl : (Blk.live [encR r] 2 :: Blk.live ((List.range k).map fun j => if j < k then AV.ref (j + 3) 0 W else AV.sl [] .tight) 1 :: Blk.live [.ref 1 0 k] 1 :: (List.replicate k (Blk.live (encF W fun _ => 0) 1)).set 0 (Blk.live ((encF W fun _ => 0).set 0 (.int .u64 1)) 1)) = blks0 at *
      clear hbl hrp hc hc2
      have hF0 : ∀ i, F64 (fs0 i) := by
        intro i j; unfold fs0; split <;> (show _ < _; omega)
      refine WL_inv (α := Nat × List Mk × (Nat → Fam)) (fun a e mm => e 2 = .ptr 0 0 0 ∧ e 5 = .ptr 2 0 0 ∧ e 31 = .sl ((tearsL r).map encM) .unk ∧ e 32 = I64 (tearsL r).length ∧ e 33 = I64 a.1 ∧ (tearsL r).drop a.1 = a.2.1 ∧ a.1 ≤ (tearsL r).length ∧
        TkM r k W a.2.2 mm.blks ∧ mm.toks = [] ∧ (∀ i, F64 (a.2.2 i)) ∧ a.2.1.foldl stepM a.2.2 = takenF (tearsL r)) (fun a => (tearsL r).length - a.1) (0, tearsL r, fs0) ?_ ?_
      · simp only [go_sem, Nat.reduceEqDiff, Nat.reduceAdd, Nat.reduceLT, Nat.reduceLeDiff, reduceIte, and_self, decide_true, decide_false, beq_self_eq_true, g1, g2, g5]
        exact ⟨trivial, trivial, trivial, trivial, rfl, trivial, by omega, hT0, trivial, hF0, rfl⟩
      · have htl := tears_len r
        rintro ⟨j, l, fs⟩ e ⟨blks, toks⟩ ⟨g2, g5, g31, g32, g33, hd, hj, hT, htk, hF, hfold⟩
        dsimp only at *
        subst htk
        rcases l with _ | ⟨x, l⟩
        · have hj' := drop_nil hd
          obtain ⟨ids, hi1, hi2⟩ := hT.ids
          simp only [go_sem, Nat.reduceEqDiff, Nat.reduceAdd, Nat.reduceLT, Nat.reduceLeDiff, reduceIte, and_self, decide_true, decide_false, beq_self_eq_true, g5, g32, g33, dec_ge hj', hT.b2, hi1, List.length_map, List.length_range, Nat.zero_add, Nat.le_refl]
          rw [List.take_of_length_le (by simp), List.map_map]
          congr 1
          refine List.map_congr_left fun q hq => ?_
          have hq' := hi2 q (List.mem_range.1 hq)
          show snap ⟨blks, []⟩ (7 + 1) (.ref (ids q) 0 W) = _
          rw [snap_ref, elems_ref]
          dsimp only
          rw [hq'.2, elBlk_live, encF_len, if_pos (by omega), List.drop_zero, encF_take, snEs_some, encF_snap, ← hfold]
          rfl
        · obtain ⟨hg, hd', hlt2⟩ := drop_cons hd
          have hokx := ht x (List.mem_of_getElem? hg)
          have hT1 := hT.app [.live [encM x] 5]
          have h1b := hT1.b2
          simp only [go_sem, Nat.reduceEqDiff, Nat.reduceAdd, Nat.reduceLT, Nat.reduceLeDiff, reduceIte, and_self, decide_true, decide_false, beq_self_eq_true, g5, g31, g32, g33, dec_lt hlt2, dec_nn, Int.toNat_natCast, List.getElem?_map, hg, h1b, WB92]
          refine backward_ok _ ?_
          simp only [go_sem, Nat.reduceEqDiff, Nat.reduceAdd, Nat.reduceLT, Nat.reduceLeDiff, reduceIte, and_self, decide_true, decide_false, beq_self_eq_true]
          refine WL_range_of (g := 103) (first := []) (cap := [.ptr (blks ++ [Blk.live [encM x] 5]).length 0 0]) ?_ ?_
          · rfl
          simp only [go_sem, Nat.reduceEqDiff, Nat.reduceAdd, Nat.reduceLT, Nat.reduceLeDiff, reduceIte, and_self, decide_true, decide_false, beq_self_eq_true, List.length_append]
          have hlb : (blks ++ [Blk.live [encM x] 5, Blk.live [AV.ref 1 0 k] 1]).length = blks.length + 2 := by simp
          refine back_prod (b := blks.length + 1) (sid := 1) (N := k) (J := fun kk mm => ∃ fs', TkM r k W fs' mm.blks ∧ mm.toks = [] ∧ (∀ i, F64 (fs' i)) ∧ mm.blks[blks.length]? = some (.live [encM x] 5) ∧ mm.blks[blks.length + 1]? = some (.live [.ref 1 0 k] 1) ∧
            (∃ env, env 2 = .ptr 0 0 0 ∧ env 5 = .ptr 2 0 0 ∧ env 8 = .ptr blks.length 0 0 ∧ mm.blks[blks.length + 2]? = some (.lp env [39, 40] asg79 body79 true none)) ∧ ∀ i, i < k → fs' i = if kk ≤ i then stepM fs x i else fs i) (by omega) ?_ ?_ _ ?_ _ ?_
          · rintro kk mm ⟨fs', hT', htk', hF', hb8, hbx, hlp, hfs⟩
            obtain ⟨ids, hi1, hi2⟩ := hT'.ids
            refine ⟨hbx, _, hi1, by simp, fun y hy => ?_⟩
            obtain ⟨q, _, rfl⟩ := List.mem_map.1 hy
            rfl
          · rintro kk ⟨bl, toks⟩ K' v hkk ⟨fs', hT', htk', hF', hb8, hbx, ⟨env, v2, v5, v8, hlp⟩, hfs⟩ hk'
            dsimp only at *
            subst htk'
            refine WR_yld hlp rfl ?_
            simp only [go_sem, Nat.reduceEqDiff, Nat.reduceAdd, Nat.reduceLT, Nat.reduceLeDiff, reduceIte, and_self, decide_true, decide_false, beq_self_eq_true, asg79, puts]
            refine YBegin_lp hlp ?_
            have hT2 := hT'.set (i := blks.length + 2) (.lp env [39, 40] asg79 body79 false none) (fun es sz h => by rw [hlp] at h; cases h)
            have hlp2 : (bl.set (blks.length + 2) (.lp env [39, 40] asg79 body79 false none))[blks.length + 2]? = some (.lp env [39, 40] asg79 body79 false none) := by
              rw [List.getElem?_set_self (List.getElem?_eq_some_iff.1 hlp).1]
            have hb82 : (bl.set (blks.length + 2) (.lp env [39, 40] asg79 body79 false none))[blks.length]? = some (.live [encM x] 5) := by
              rw [List.getElem?_set_ne (by omega)]; exact hb8
            have hbx2 : (bl.set (blks.length + 2) (.lp env [39, 40] asg79 body79 false none))[blks.length + 1]? = some (.live [.ref 1 0 k] 1) := by
              rw [List.getElem?_set_ne (by omega)]; exact hbx
            generalize bl.set (blks.length + 2) (.lp env [39, 40] asg79 body79 false none) = bl2 at *
            obtain ⟨ids, hi1, hi2⟩ := hT2.ids
            have hik := (hi2 kk hkk).2
            have hc : decide (((0 : Int) ≤ (kk : Int) ∧ (kk : Int) < (k : Int)) ∧ True) = true := decide_eq_true ⟨⟨by omega, by omega⟩, trivial⟩
            simp only [go_sem, Nat.reduceEqDiff, Nat.reduceAdd, Nat.reduceLT, Nat.reduceLeDiff, reduceIte, and_self, decide_true, decide_false, beq_self_eq_true, body79, v2, v5, v8, hT2.b2, hc, Int.toNat_natCast, Nat.zero_add, hi1, range_get k _ kk hkk, hb82, WB93, hik, encF_len, Nat.le_refl, encF_take, encF_snap]
            obtain ⟨o1, o2, o3, o4, o5, o6⟩ := hokx
            refine torn_ok (n := L - 6) (fr := x.fr.toNat) (to := x.to.toNat) (lo := x.lo.toNat) (hi := x.hi.toNat) hW (by omega) (by omega) (by omega) (by omega) (by omega) (by omega) (by omega) (by omega) (by omega) (hF' kk) _ fun now => ?_
            generalize hz : tornF x.fr.toNat x.to.toNat x.lo.toNat x.hi.toNat (fs' kk) = z
            have hzF : F64 z := hz ▸ F64.torn (hF' kk)
            have hT3 := hT2.app [.live [encM x] 5, .live (encF W z) 1, .live (encF W now) 1]
            have hi1' : (bl2 ++ [Blk.live [encM x] 5, .live (encF W z) 1, .live (encF W now) 1])[1]? = _ := get_app hi1
            have hi2' : ∀ q, q < k → 3 ≤ ids q ∧ (bl2 ++ [Blk.live [encM x] 5, .live (encF W z) 1, .live (encF W now) 1])[ids q]? = _ := fun q hq => ⟨(hi2 q hq).1, get_app (hi2 q hq).2⟩
            have hzb : (bl2 ++ [Blk.live [encM x] 5, .live (encF W z) 1, .live (encF W now) 1])[bl2.length + 1]? = some (.live (encF W z) 1) := by
              rw [List.getElem?_append_right (by omega), show bl2.length + 1 - bl2.length = 1 by omega]; rfl
            have hlp3 := get_app (L := [Blk.live [encM x] 5, .live (encF W z) 1, .live (encF W now) 1]) hlp2
            have hb83 := get_app (L := [Blk.live [encM x] 5, .live (encF W z) 1, .live (encF W now) 1]) hb82
            have hbx3 := get_app (L := [Blk.live [encM x] 5, .live (encF W z) 1, .live (encF W now) 1]) hbx2
            have hl0 := (List.getElem?_eq_some_iff.1 hlp2).1
            have hne : ∀ q, q < k → ids q ≠ bl2.length + 1 := fun q hq h => by
              have := (List.getElem?_eq_some_iff.1 (hi2 q hq).2).1; omega
            have hfin : ∀ (bl3 : List Blk) (z' : Fam) (env' : Nat → AV), TkM r k W fs' bl3 → bl3[1]? = some (Blk.live (List.map (fun k => AV.ref (ids k) 0 W) (List.range k)) 1) → (∀ q, q < k → 3 ≤ ids q ∧ bl3[ids q]? = some (.live (encF W (fs' q)) 1)) →
                bl3[bl2.length + 1]? = some (.live (encF W z') 1) → bl3[blks.length + 2]? = some (.lp env [39, 40] asg79 body79 false none) → bl3[blks.length]? = some (.live [encM x] 5) → bl3[blks.length + 1]? = some (.live [.ref 1 0 k] 1) → F64 z' →
                z' = stepM fs' x kk → K' (.bool true) ⟨(bl3.set 1 (.live ((List.range k).map fun j => if j = kk then .ref (bl2.length + 1) 0 W else .ref (ids j) 0 W) 1)).set (blks.length + 2) (.lp env [39, 40] asg79 body79 true none), []⟩ := by
              intro bl3 z' env' p1 p2 p3 p4 p5 p6 p7 p8 p9
              have hl3 : 3 ≤ blks.length := by have := (List.getElem?_eq_some_iff.1 hT.b2).1; omega
              have hs := p1.store ⟨p2, p3⟩ (kk := kk) p4 (by omega)
              refine hk' _ ⟨_, hs.set _ (fun es sz h => ?_), rfl, fun i => ?_, ?_, ?_, ⟨env, v2, v5, v8, ?_⟩, fun i hi => ?_⟩
              · rw [List.getElem?_set_ne (by omega), p5] at h; cases h
              · split
                · exact p8
                · exact hF' i
              · rw [List.getElem?_set_ne (by omega), List.getElem?_set_ne (by omega)]; exact p6
              · rw [List.getElem?_set_ne (by omega), List.getElem?_set_ne (by omega)]; exact p7
              · rw [List.getElem?_set_self]
                rw [List.length_set]; exact (List.getElem?_eq_some_iff.1 p5).1
              · have hlow : ∀ q, q ≤ kk → q < k → fs' q = fs q := fun q h1 h2 => by rw [hfs q h2, if_neg (by omega)]
                by_cases h : i = kk
                · rw [if_pos h, if_pos (by omega), h, p9]
                  cases kk with
                  | zero => show tornF _ _ _ _ (fs' 0) = tornF _ _ _ _ (fs 0); rw [hlow 0 (by omega) (by omega)]
                  | succ q =>
                    show (fun j => tornF _ _ _ _ (fs' (q + 1)) j ||| fs' q j) = (fun j => tornF _ _ _ _ (fs (q + 1)) j ||| fs q j)
                    rw [hlow (q + 1) (by omega) (by omega), hlow q (by omega) (by omega)]
                · rw [if_neg h, hfs i hi]
                  by_cases h2 : kk + 1 ≤ i
                  · rw [if_pos h2, if_pos (by omega)]
                  · rw [if_neg h2, if_neg (by omega)]
            simp only [go_sem, Nat.reduceEqDiff, Nat.reduceAdd, Nat.reduceLT, Nat.reduceLeDiff, reduceIte, and_self, decide_true, decide_false, beq_self_eq_true, join_mT, own_F, own_M, shift_ref, ownly_ref, true_and, v2, v5, v8]
            refine Cs_dec (fun hpos => ?_) fun hnp => ?_
            · obtain ⟨q, rfl⟩ : ∃ q, kk = q + 1 := ⟨kk - 1, by omega⟩
              have ew : IntKind.i64.wrap (((q + 1 : Nat) : Int) - 1) = (q : Int) := by rw [wrap_i64 _ (by omega) (by omega)]; omega
              have hcq : decide (((0 : Int) ≤ (q : Int) ∧ (q : Int) < (k : Int)) ∧ True) = true := decide_eq_true ⟨⟨by omega, by omega⟩, trivial⟩
              simp only [go_sem, Nat.reduceEqDiff, Nat.reduceAdd, Nat.reduceLT, Nat.reduceLeDiff, reduceIte, and_self, decide_true, decide_false, beq_self_eq_true, join_mT, shift_ref, v2, v5, v8, hT3.b2, ew, hi1', hcq, Int.toNat_natCast, Nat.zero_add, range_get k _ q (show q < k by omega), WB94]
              refine join_ok (x := z) (y := fs' q) hW8 hzF (hF' q) hzb (Or.inr ⟨ids q, rfl, (hi2' q (by omega)).2, hne q (by omega)⟩) _ ?_
              have s1 : ∀ (i : Nat) (b : Blk), i ≠ bl2.length + 1 → ((bl2 ++ [Blk.live [encM x] 5, .live (encF W z) 1, .live (encF W now) 1]).set (bl2.length + 1) b)[i]? = (bl2 ++ [Blk.live [encM x] 5, .live (encF W z) 1, .live (encF W now) 1])[i]? := fun i b h => List.getElem?_set_ne (fun h' => h h'.symm)
              have hl2 : 3 ≤ bl2.length := by have := (List.getElem?_eq_some_iff.1 hT2.b2).1; omega
              have t1 : ((bl2 ++ [Blk.live [encM x] 5, .live (encF W z) 1, .live (encF W now) 1]).set (bl2.length + 1) (.live (encF W fun j => z j ||| fs' q j) 1))[2]? = _ := (s1 2 _ (by omega)).trans hT3.b2
              have t2 : ((bl2 ++ [Blk.live [encM x] 5, .live (encF W z) 1, .live (encF W now) 1]).set (bl2.length + 1) (.live (encF W fun j => z j ||| fs' q j) 1))[1]? = _ := (s1 1 _ (by omega)).trans hi1'
              have t0 : ((bl2 ++ [Blk.live [encM x] 5, .live (encF W z) 1, .live (encF W now) 1]).set (bl2.length + 1) (.live (encF W fun j => z j ||| fs' q j) 1))[0]? = _ := (s1 0 _ (by omega)).trans hT3.b0
              simp only [go_sem, Nat.reduceEqDiff, Nat.reduceAdd, Nat.reduceLT, Nat.reduceLeDiff, reduceIte, and_self, decide_true, decide_false, beq_self_eq_true, v2, v5, v8, t1, t2, hc, Int.toNat_natCast, Nat.zero_add, range_get k _ (q + 1) hkk, range_set]
              refine YEnd_lp ((List.getElem?_set_ne (by omega)).trans ((s1 _ _ (by omega)).trans hlp3)) ?_
              refine hfin _ (fun j => z j ||| fs' q j) env ⟨t0, t1, ids, t2, fun i hi => ⟨(hi2' i hi).1, (s1 _ _ (hne i hi)).trans (hi2' i hi).2⟩⟩ t2 (fun i hi => ⟨(hi2' i hi).1, (s1 _ _ (hne i hi)).trans (hi2' i hi).2⟩) ?_ ((s1 _ _ (by omega)).trans hlp3) ((s1 _ _ (by omega)).trans hb83) ((s1 _ _ (by omega)).trans hbx3) (fun j => bound_or (hzF j) (hF' q j)) ?_
              · rw [List.getElem?_set_self (by simp)]
              · rw [← hz]; rfl
            · obtain rfl : kk = 0 := by omega
              simp only [go_sem, Nat.reduceEqDiff, Nat.reduceAdd, Nat.reduceLT, Nat.reduceLeDiff, reduceIte, and_self, decide_true, decide_false, beq_self_eq_true, join_mT, shift_ref, v2, v5, v8, hT3.b2, hi1', hc, Int.toNat_natCast, Nat.zero_add, range_get k _ 0 hkk, range_set]
              refine YEnd_lp ((List.getElem?_set_ne (by omega)).trans hlp3) ?_
              exact hfin _ z env hT3 hi1' hi2' hzb hlp3 hb83 hbx3 hzF hz.symm
          · have hinit : ∀ env0 : Nat → AV, env0 2 = .ptr 0 0 0 → env0 5 = .ptr 2 0 0 → env0 8 = .ptr blks.length 0 0 →
                ∃ fs', TkM r k W fs' (blks ++ [Blk.live [encM x] 5] ++ [Blk.live [AV.ref 1 0 k] 1] ++ [.lp env0 [39, 40] asg79 body79 true none]) ∧ ([] : List (Nat × Nat)) = [] ∧ (∀ i, F64 (fs' i)) ∧
                (blks ++ [Blk.live [encM x] 5] ++ [Blk.live [AV.ref 1 0 k] 1] ++ [.lp env0 [39, 40] asg79 body79 true none])[blks.length]? = some (.live [encM x] 5) ∧
                (blks ++ [Blk.live [encM x] 5] ++ [Blk.live [AV.ref 1 0 k] 1] ++ [.lp env0 [39, 40] asg79 body79 true none])[blks.length + 1]? = some (.live [.ref 1 0 k] 1) ∧
                (∃ env, env 2 = .ptr 0 0 0 ∧ env 5 = .ptr 2 0 0 ∧ env 8 = .ptr blks.length 0 0 ∧ (blks ++ [Blk.live [encM x] 5] ++ [Blk.live [AV.ref 1 0 k] 1] ++ [.lp env0 [39, 40] asg79 body79 true none])[blks.length + 2]? = some (.lp env [39, 40] asg79 body79 true none)) ∧
                ∀ i, i < k → fs' i = if k ≤ i then stepM fs x i else fs i := by
              intro env0 v2 v5 v8
              refine ⟨fs, ((hT1.app _).app _), rfl, hF, ?_, ?_, ⟨env0, v2, v5, v8, ?_⟩, ?_⟩
              · exact get_app (get_app (get_last _ _))
              · refine get_app ?_
                have := get_last (blks ++ [Blk.live [encM x] 5]) (Blk.live [AV.ref 1 0 k] 1)
                rwa [show (blks ++ [Blk.live [encM x] 5]).length = blks.length + 1 by simp] at this
              · have := get_last (blks ++ [Blk.live [encM x] 5] ++ [Blk.live [AV.ref 1 0 k] 1]) (Blk.lp env0 [39, 40] asg79 body79 true none)
                rwa [show (blks ++ [Blk.live [encM x] 5] ++ [Blk.live [AV.ref 1 0 k] 1]).length = blks.length + 2 by simp] at this
              · intro i hi
                rw [if_neg (by omega)]
            exact hinit _ (by simp only [go_sem, Nat.reduceEqDiff, Nat.reduceAdd, Nat.reduceLT, Nat.reduceLeDiff, reduceIte, and_self, decide_true, decide_false, beq_self_eq_true, g2]) (by simp only [go_sem, Nat.reduceEqDiff, Nat.reduceAdd, Nat.reduceLT, Nat.reduceLeDiff, reduceIte, and_self, decide_true, decide_false, beq_self_eq_true, g5]) (by simp only [go_sem, Nat.reduceEqDiff, Nat.reduceAdd, Nat.reduceLT, Nat.reduceLeDiff, reduceIte, and_self, decide_true, decide_false, beq_self_eq_true])
          · rintro ⟨bl, toks⟩ ⟨fs', hT', htk', hF', hb8, hbx, ⟨env, v2, v5, v8, hlp⟩, hfs⟩
            dsimp only at *
            subst htk'
            have hl3 : ∀ A B : Blk, (blks ++ [A] ++ [B]).length = blks.length + 2 := by simp
            rw [hl3]
            refine RgEnd_lp hlp ?_
            have hw : IntKind.i64.wrap ((j : Int) + 1) = ((j + 1 : Nat) : Int) := by rw [wrap_i64 _ (by omega) (by omega)]; rfl
            simp only [go_sem, Nat.reduceEqDiff, Nat.reduceAdd, Nat.reduceLT, Nat.reduceLeDiff, reduceIte, and_self, decide_true, decide_false, beq_self_eq_true, g33, hw]
            refine Nx_of (j + 1, l, stepM fs x) (by simp; omega) ?_
            simp only [go_sem, Nat.reduceEqDiff, Nat.reduceAdd, Nat.reduceLT, Nat.reduceLeDiff, reduceIte, and_self, decide_true, decide_false, beq_self_eq_true, g2, g5, g31, g32]
            refine ⟨trivial, trivial, trivial, trivial, trivial, hd', by omega, (hT'.set _ (fun es sz h => by rw [hlp] at h; cases h)).congr fun i hi => ?_, trivial, F64.stepM hF x, ?_⟩
            · rw [hfs i hi, if_pos (Nat.zero_le i)]
            · rw [← hfold, List.foldl_cons]
end Go.Ab.T
end
