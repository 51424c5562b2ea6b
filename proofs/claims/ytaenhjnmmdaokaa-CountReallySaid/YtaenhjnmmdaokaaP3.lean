/-
  A part of the proofs over this seat.
  (The texts KcK4 KcK5 KcK6, one behind the other.)
-/
import Derived.Test.YtaenhjnmmdaokaaP2
set_option linter.unusedSimpArgs false
set_option linter.unusedVariables false
set_option linter.unusedSectionVars false
section
namespace Go.Ab.T
set_option maxRecDepth 8000
set_option maxHeartbeats 4000000
theorem sameInts_ok (a b : List Int) (ha : a.length < 1073741824) : RV ft 35 [encIs a, encIs b] (.bool (decide (a = b))) := by
  refine RV_of ft35 rfl ?_
  simp only [c35, r35]
  cases hl : ((a.length : Int) != b.length)
  rotate_left
  · simp only [go_sem, Nat.reduceEqDiff, Nat.reduceAdd, Nat.reduceLT, Nat.reduceLeDiff, reduceIte, hl]
    have : a ≠ b := by rintro rfl; simp at hl
    rw [decide_eq_false this]
  have hlen : a.length = b.length := by
    have : ((a.length : Int) == b.length) = true := by simpa [bne] using hl
    have := beq_iff_eq.1 this; omega
  simp only [go_sem, Nat.reduceEqDiff, Nat.reduceAdd, Nat.reduceLT, Nat.reduceLeDiff, reduceIte, hl]
  refine WL_inv (α := Nat × List Int × List Int) (fun q e mm => e 0 = encIs a ∧ e 1 = encIs b ∧ e 5 = I64 q.1 ∧ a.drop q.1 = q.2.1 ∧ b.drop q.1 = q.2.2 ∧ decide (q.2.1 = q.2.2) = decide (a = b) ∧ mm = .nil) (fun q => q.2.1.length) (0, a, b) ?_ ?_
  · simp only [go_sem, Nat.reduceEqDiff, Nat.reduceAdd, Nat.reduceLT, Nat.reduceLeDiff, reduceIte]
    ((repeat' apply And.intro) <;> first | trivial | rfl | omega | assumption)
  rintro ⟨k, r, t⟩ e m ⟨g0, g1, g5, hd, hd', hq, rfl⟩
  dsimp only at g5 hd hd' hq
  cases r with
  | nil =>
    have h3 := drop_nil hd
    simp only [go_sem, Nat.reduceEqDiff, Nat.reduceAdd, Nat.reduceLT, Nat.reduceLeDiff, reduceIte, g0, g1, g5, dec_ge h3]
    have : t = [] := by rw [← hd']; exact List.drop_eq_nil_of_le (by omega)
    subst this
    rw [← hq]; rfl
  | cons x r =>
    obtain ⟨hk, hd2, hlt⟩ := drop_cons hd
    cases t with
    | nil => have := drop_nil hd'; omega
    | cons y t =>
      obtain ⟨hk', hd2', _⟩ := drop_cons hd'
      cases hx : (x != y)
      · have hxy : x = y := by have : (x == y) = true := by simpa [bne] using hx
                               exact beq_iff_eq.1 this
        subst hxy
        simp only [go_sem, Nat.reduceEqDiff, Nat.reduceAdd, Nat.reduceLT, Nat.reduceLeDiff, reduceIte, g0, g1, g5, dec_lt hlt, Is_idx hk, Is_idx hk', hx, wrap_n1 k (by omega)]
        refine Nx_of (k + 1, r, t) (by simp) ?_
        simp only [go_sem, Nat.reduceEqDiff, Nat.reduceAdd, Nat.reduceLT, Nat.reduceLeDiff, reduceIte, g0, g1]
        ((repeat' apply And.intro) <;> first | trivial | rfl | assumption | omega | (rw [← hq]; simp))
      · simp only [go_sem, Nat.reduceEqDiff, Nat.reduceAdd, Nat.reduceLT, Nat.reduceLeDiff, reduceIte, g0, g1, g5, dec_lt hlt, Is_idx hk, Is_idx hk', hx]
        rw [← hq]
        have : x ≠ y := by rintro rfl; simp at hx
        simp [this]
theorem sameR_ok (a b : List Int) (ha : a.length < 1073741824) (hb : b.length < 1073741824) : RV ft 56 [encIs a, encIs b] (.bool (decide (a = b))) := by
  refine RV_of ft56 rfl ?_
  simp only [c56, r56]
  simp only [go_sem, Nat.reduceEqDiff, Nat.reduceAdd, Nat.reduceLT, Nat.reduceLeDiff, reduceIte]
  refine WL_inv (α := Nat × List Int × List Int) (fun q e mm => e 0 = encIs a ∧ e 1 = encIs b ∧ e 5 = I64 q.1 ∧ a.drop q.1 = q.2.1 ∧ b.drop q.1 = q.2.2 ∧ decide (q.2.1 = q.2.2) = decide (a = b) ∧ q.1 ≤ a.length ∧ q.1 ≤ b.length ∧ mm = .nil) (fun q => q.2.1.length) (0, a, b) ?_ ?_
  · simp only [go_sem, Nat.reduceEqDiff, Nat.reduceAdd, Nat.reduceLT, Nat.reduceLeDiff, reduceIte]
    ((repeat' apply And.intro) <;> first | trivial | rfl | assumption | omega | (exact Nat.zero_le _))
  rintro ⟨k, r, t⟩ e m ⟨g0, g1, g5, hd, hd', hq, l1, l2, rfl⟩
  dsimp only at g5 hd hd' hq l1 l2
  have fin : (r = [] ∨ t = []) → ((a.length : Int) == b.length) = decide (a = b) := by
    intro h
    have e1 : r.length = a.length - k := by rw [← hd, List.length_drop]
    have e2 : t.length = b.length - k := by rw [← hd', List.length_drop]
    rw [← hq]
    cases r <;> cases t
    · have : ((a.length : Int) == b.length) = true := beq_iff_eq.2 (by simp at e1 e2; omega)
      rw [this]; rfl
    · have : ((a.length : Int) == b.length) = false := beq_eq_false_iff_ne.2 (by simp at e1 e2; omega)
      rw [this]; rfl
    · have : ((a.length : Int) == b.length) = false := beq_eq_false_iff_ne.2 (by simp at e1 e2; omega)
      rw [this]; rfl
    · rcases h with h | h <;> cases h
  cases r with
  | nil =>
    have h3 := drop_nil hd
    simp only [go_sem, Nat.reduceEqDiff, Nat.reduceAdd, Nat.reduceLT, Nat.reduceLeDiff, reduceIte, g0, g1, g5, dec_ge h3]
    rw [fin (.inl rfl)]
  | cons x r =>
    obtain ⟨hk, hd2, hlt⟩ := drop_cons hd
    cases t with
    | nil =>
      have h3 := drop_nil hd'
      simp only [go_sem, Nat.reduceEqDiff, Nat.reduceAdd, Nat.reduceLT, Nat.reduceLeDiff, reduceIte, g0, g1, g5, dec_lt hlt, dec_ge h3]
      rw [fin (.inr rfl)]
    | cons y t =>
      obtain ⟨hk', hd2', hlt'⟩ := drop_cons hd'
      cases hx : (x != y)
      · have hxy : x = y := by have : (x == y) = true := by simpa [bne] using hx
                               exact beq_iff_eq.1 this
        subst hxy
        simp only [go_sem, Nat.reduceEqDiff, Nat.reduceAdd, Nat.reduceLT, Nat.reduceLeDiff, reduceIte, g0, g1, g5, dec_lt hlt, dec_lt hlt', Is_idx hk, Is_idx hk', hx, wrap_n1 k (by omega)]
        refine Nx_of (k + 1, r, t) (by simp) ?_
        simp only [go_sem, Nat.reduceEqDiff, Nat.reduceAdd, Nat.reduceLT, Nat.reduceLeDiff, reduceIte, g0, g1]
        ((repeat' apply And.intro) <;> first | trivial | rfl | assumption | omega | (rw [← hq]; simp))
      · simp only [go_sem, Nat.reduceEqDiff, Nat.reduceAdd, Nat.reduceLT, Nat.reduceLeDiff, reduceIte, g0, g1, g5, dec_lt hlt, dec_lt hlt', Is_idx hk, Is_idx hk', hx]
        rw [← hq]
        have : x ≠ y := by rintro rfl; simp at hx
        simp [this]
theorem in_ok (l : List Int) (n : Int) (hl : l.length < 1073741824) : RV ft 23 [encIs l, I64 n] (.bool (l.any (· == n))) := by
  refine RV_of ft23 rfl ?_
  simp only [c23, r23]
  simp only [go_sem, Nat.reduceEqDiff, Nat.reduceAdd, Nat.reduceLT, Nat.reduceLeDiff, reduceIte]
  refine WL_inv (α := Nat × List Int) (fun q e mm => e 0 = encIs l ∧ e 1 = I64 n ∧ e 5 = I64 q.1 ∧ l.drop q.1 = q.2 ∧ q.2.any (· == n) = l.any (· == n) ∧ mm = .nil) (fun q => q.2.length) (0, l) ?_ ?_
  · simp only [go_sem, Nat.reduceEqDiff, Nat.reduceAdd, Nat.reduceLT, Nat.reduceLeDiff, reduceIte]
    ((repeat' apply And.intro) <;> first | trivial | rfl | omega | assumption)
  rintro ⟨k, r⟩ e m ⟨g0, g1, g5, hd, hq, rfl⟩
  dsimp only at g5 hd hq
  cases r with
  | nil =>
    have h3 := drop_nil hd
    simp only [go_sem, Nat.reduceEqDiff, Nat.reduceAdd, Nat.reduceLT, Nat.reduceLeDiff, reduceIte, g0, g1, g5, dec_ge h3]
    rw [← hq]; rfl
  | cons x r =>
    obtain ⟨hk, hd2, hlt⟩ := drop_cons hd
    cases hx : (x == n)
    · simp only [go_sem, Nat.reduceEqDiff, Nat.reduceAdd, Nat.reduceLT, Nat.reduceLeDiff, reduceIte, g0, g1, g5, dec_lt hlt, Is_idx hk, hx, wrap_n1 k (by omega)]
      refine Nx_of (k + 1, r) (by simp) ?_
      simp only [go_sem, Nat.reduceEqDiff, Nat.reduceAdd, Nat.reduceLT, Nat.reduceLeDiff, reduceIte, g0, g1]
      ((repeat' apply And.intro) <;> first | trivial | rfl | assumption | omega | (rw [← hq, List.any_cons, hx, Bool.false_or]))
    · simp only [go_sem, Nat.reduceEqDiff, Nat.reduceAdd, Nat.reduceLT, Nat.reduceLeDiff, reduceIte, g0, g1, g5, dec_lt hlt, Is_idx hk, hx]
      rw [← hq, List.any_cons, hx]; rfl
def sumI : List Int → Int
  | [] => 0
  | x :: r => x + sumI r
theorem sumI_eq (l : List Int) : sumI l = l.sum := by induction l with | nil => rfl | cons x r ih => simp [sumI, ih]
theorem sumI_bd {l : List Int} (h : ∀ x ∈ l, -1000000 ≤ x ∧ x ≤ 1000000) : -(1000000 * (l.length : Int)) ≤ sumI l ∧ sumI l ≤ 1000000 * (l.length : Int) := by
  induction l with
  | nil => simp [sumI]
  | cons x r ih =>
    have h1 := h x (by simp)
    have h2 := ih fun y hy => h y (by simp [hy])
    simp only [sumI, List.length_cons]; omega
theorem sum_ok (l : List Int) (hl : l.length < 1000000) (hb : ∀ x ∈ l, -1000000 ≤ x ∧ x ≤ 1000000) : RV ft 55 [encIs l] (I64 l.sum) := by
  rw [← sumI_eq]
  refine RV_of ft55 rfl ?_
  simp only [c55, r55]
  simp only [go_sem, Nat.reduceEqDiff, Nat.reduceAdd, Nat.reduceLT, Nat.reduceLeDiff, reduceIte]
  refine WL_inv (α := Nat × List Int × Int) (fun q e mm => e 0 = encIs l ∧ e 3 = I64 q.2.2 ∧ e 4 = I64 q.1 ∧ l.drop q.1 = q.2.1 ∧ q.2.2 + sumI q.2.1 = sumI l ∧ (-(1000000 * (q.1 : Int)) ≤ q.2.2 ∧ q.2.2 ≤ 1000000 * (q.1 : Int)) ∧ mm = .nil) (fun q => q.2.1.length) (0, l, 0) ?_ ?_
  · simp only [go_sem, Nat.reduceEqDiff, Nat.reduceAdd, Nat.reduceLT, Nat.reduceLeDiff, reduceIte]
    ((repeat' apply And.intro) <;> first | trivial | rfl | assumption | omega | (simp))
  rintro ⟨k, r, n⟩ e m ⟨g0, g3, g4, hd, hq, hn, rfl⟩
  dsimp only at g3 g4 hd hq hn
  cases r with
  | nil =>
    have h3 := drop_nil hd
    simp only [go_sem, Nat.reduceEqDiff, Nat.reduceAdd, Nat.reduceLT, Nat.reduceLeDiff, reduceIte, g0, g3, g4, dec_ge h3]
    rw [← hq]; simp [sumI]
  | cons x r =>
    obtain ⟨hk, hd2, hlt⟩ := drop_cons hd
    have hx := hb x (List.mem_of_getElem? hk)
    simp only [go_sem, Nat.reduceEqDiff, Nat.reduceAdd, Nat.reduceLT, Nat.reduceLeDiff, reduceIte, g0, g3, g4, dec_lt hlt, Is_idx hk, wrap_n1 k (by omega), wrap_i64 (n + x) (by omega) (by omega)]
    refine Nx_of (k + 1, r, n + x) (by simp) ?_
    simp only [go_sem, Nat.reduceEqDiff, Nat.reduceAdd, Nat.reduceLT, Nat.reduceLeDiff, reduceIte, g0]
    simp only [sumI] at hq
    ((repeat' apply And.intro) <;> first | trivial | rfl | assumption | omega | (simp only [Int.natCast_add]; omega))
end Go.Ab.T
end

section
namespace Go.Ab.T
set_option maxRecDepth 100000
set_option maxHeartbeats 4000000
abbrev wr (n : Int) : Int := IntKind.i64.wrap n
theorem plus_run (x y z a b c : Int) : callV (run ft 60) 72 [.agg [I64 x, I64 y, I64 z], .agg [I64 a, I64 b, I64 c]] = some (.agg [I64 (wr (x + a)), I64 (wr (y + b)), I64 (wr (z + c))]) := by kernel_rfl
theorem minus_run (x y z a b c : Int) : callV (run ft 60) 77 [.agg [I64 x, I64 y, I64 z], .agg [I64 a, I64 b, I64 c]] = some (.agg [I64 (wr (x - a)), I64 (wr (y - b)), I64 (wr (z - c))]) := by kernel_rfl
theorem together_run (x y z : Int) : callV (run ft 60) 69 [.agg [I64 x, I64 y, I64 z]] = some (I64 (wr (wr (wr (0 + x) + y) + z))) := by kernel_rfl
theorem cost_run (x y z a b c : Int) : callV (run ft 60) 88 [.agg [I64 x, I64 y, I64 z], .agg [I64 a, I64 b, I64 c]] = some (I64 (wr (wr (wr (0 + wr (x * a)) + wr (y * b)) + wr (z * c)))) := by kernel_rfl
theorem tick1_run (a : Int) : callV (run ft 60) 68 [encIs [a]] = some (.agg [I64 a, I64 0, I64 0]) := by kernel_rfl
theorem tick2_run (a b : Int) : callV (run ft 60) 68 [encIs [a, b]] = some (.agg [I64 a, I64 b, I64 0]) := by kernel_rfl
theorem tick3_run (a b c : Int) : callV (run ft 60) 68 [encIs [a, b, c]] = some (.agg [I64 a, I64 b, I64 c]) := by kernel_rfl
def V3.bd (t : V3) (B : Int) : Prop := (-B ≤ t.x ∧ t.x ≤ B) ∧ (-B ≤ t.y ∧ t.y ≤ B) ∧ (-B ≤ t.z ∧ t.z ≤ B)
theorem V3.bd_of {t : V3} {s : V3} {B : Int} (h : t.nn ∧ t.le s) (hs : s.bd B) : t.bd B := by
  simp only [V3.nn, V3.le, V3.bd] at *; omega
theorem plus_ok {a b : V3} (ha : a.bd 1000000000) (hb : b.bd 1000000000) : RV ft 72 [encV a, encV b] (encV (a.add b)) := by
  refine ⟨60, ?_⟩
  have := plus_run a.x a.y a.z b.x b.y b.z
  simp only [V3.bd] at ha hb
  simp only [wr] at this
  rw [wrap_i64 _ (by omega) (by omega), wrap_i64 _ (by omega) (by omega), wrap_i64 _ (by omega) (by omega)] at this
  exact this
theorem minus_ok {a b : V3} (ha : a.bd 1000000000) (hb : b.bd 1000000000) : RV ft 77 [encV a, encV b] (encV (a.sub b)) := by
  refine ⟨60, ?_⟩
  have := minus_run a.x a.y a.z b.x b.y b.z
  simp only [V3.bd] at ha hb
  simp only [wr] at this
  rw [wrap_i64 _ (by omega) (by omega), wrap_i64 _ (by omega) (by omega), wrap_i64 _ (by omega) (by omega)] at this
  exact this
theorem together_ok {a : V3} (ha : a.bd 1000000) : RV ft 69 [encV a] (I64 a.sum) := by
  refine ⟨60, ?_⟩
  have := together_run a.x a.y a.z
  simp only [V3.bd] at ha
  simp only [wr] at this
  rw [wrap_i64 (0 + a.x) (by omega) (by omega), wrap_i64 (0 + a.x + a.y) (by omega) (by omega), wrap_i64 _ (by omega) (by omega)] at this
  rw [show a.sum = 0 + a.x + a.y + a.z by simp only [V3.sum]; omega]
  exact this
theorem mul_bd {a b : Int} (ha : -1000 ≤ a ∧ a ≤ 1000) (hb : 0 ≤ b ∧ b ≤ 1000) : -1000000 ≤ a * b ∧ a * b ≤ 1000000 := by
  have h1 : a * b ≤ 1000 * b := Int.mul_le_mul_of_nonneg_right ha.2 hb.1
  have h2 : -1000 * b ≤ a * b := Int.mul_le_mul_of_nonneg_right ha.1 hb.1
  omega
def V3.pos (p : V3) : Prop := (0 ≤ p.x ∧ p.x ≤ 1000) ∧ (0 ≤ p.y ∧ p.y ≤ 1000) ∧ (0 ≤ p.z ∧ p.z ≤ 1000)
theorem dot_bd {a p : V3} (ha : a.bd 1000) (hp : p.pos) : -3000000 ≤ a.dot p ∧ a.dot p ≤ 3000000 := by
  have h1 := mul_bd ha.1 hp.1
  have h2 := mul_bd ha.2.1 hp.2.1
  have h3 := mul_bd ha.2.2 hp.2.2
  simp only [V3.dot]; omega
theorem cost_ok {a p : V3} (ha : a.bd 1000) (hp : p.pos) : RV ft 88 [encV a, encV p] (I64 (a.dot p)) := by
  refine ⟨60, ?_⟩
  have := cost_run a.x a.y a.z p.x p.y p.z
  have h1 := mul_bd ha.1 hp.1
  have h2 := mul_bd ha.2.1 hp.2.1
  have h3 := mul_bd ha.2.2 hp.2.2
  simp only [wr] at this
  rw [wrap_i64 (a.x * p.x) (by omega) (by omega), wrap_i64 (a.y * p.y) (by omega) (by omega), wrap_i64 (a.z * p.z) (by omega) (by omega), wrap_i64 (0 + a.x * p.x) (by omega) (by omega), wrap_i64 (0 + a.x * p.x + a.y * p.y) (by omega) (by omega), wrap_i64 _ (by omega) (by omega)] at this
  rw [show a.dot p = 0 + a.x * p.x + a.y * p.y + a.z * p.z by simp only [V3.dot]; omega]
  exact this
theorem tick_ok {l : List Int} (h1 : 1 ≤ l.length) (h3 : l.length ≤ 3) : RV ft 68 [encIs l] (encV (toV l)) := by
  match l, h1, h3 with
  | [a], _, _ => exact ⟨60, tick1_run a⟩
  | [a, b], _, _ => exact ⟨60, tick2_run a b⟩
  | [a, b, c], _, _ => exact ⟨60, tick3_run a b c⟩
  | [], h, _ => simp at h
  | _ :: _ :: _ :: _ :: _, _, h => simp at h
theorem missing_ok {c : Ctr} (hf : 0 ≤ c.fl ∧ c.fl ≤ 9999) (hc : 0 ≤ c.ca ∧ c.ca ≤ 9999) {t p : V3} (ht : t.bd 1000) (hp : p.pos) : RV ft 71 [encC c, encV t, encV p] (I64 (miss p c t)) := by
  refine RV_of ft71 rfl ?_
  simp only [c71, r71]
  have hd := dot_bd ht hp
  simp only [go_sem, Nat.reduceEqDiff, Nat.reduceAdd, Nat.reduceLT, Nat.reduceLeDiff, reduceIte, WB88, WVH_eq (cost_ok ht hp), true_and, wrap_i64 (c.fl + t.dot p) (by omega) (by omega), wrap_i64 (c.fl + t.dot p - c.ca) (by omega) (by omega)]
  rfl
theorem isWrong_ok (x : Ch) : RV ft 53 [encCh x] (.bool (decide (0 < x.f))) := by
  refine RV_of ft53 rfl ?_
  simp only [c53, r53]
  simp only [go_sem, Nat.reduceEqDiff, Nat.reduceAdd, Nat.reduceLT, Nat.reduceLeDiff, reduceIte, gt_iff_lt]
theorem isRight_ok (x : Ch) : RV ft 58 [encCh x] (.bool (!decide (0 < x.f))) := by
  refine RV_of ft58 rfl ?_
  simp only [c58, r58]
  simp only [go_sem, Nat.reduceEqDiff, Nat.reduceAdd, Nat.reduceLT, Nat.reduceLeDiff, reduceIte, WB53, WVH_eq (isWrong_ok _), true_and]
def V3.at (t : V3) (n : Int) : Int := if n = 0 then t.x else if n = 1 then t.y else t.z
theorem really0_run (x y z f m : Int) : callV (run ft 60) 49 [.agg [I64 x, I64 y, I64 z, I64 f, I64 m], .pv (I64 0) 0] = some (I64 x) := by kernel_rfl
theorem really1_run (x y z f m : Int) : callV (run ft 60) 49 [.agg [I64 x, I64 y, I64 z, I64 f, I64 m], .pv (I64 1) 0] = some (I64 y) := by kernel_rfl
theorem really2_run (x y z f m : Int) : callV (run ft 60) 49 [.agg [I64 x, I64 y, I64 z, I64 f, I64 m], .pv (I64 2) 0] = some (I64 z) := by kernel_rfl
theorem really1_ok (x : Ch) {n : Int} (h0 : 0 ≤ n) (h3 : n < 3) : RV ft 49 [encCh x, .pv (I64 n) 0] (I64 (x.t.at n)) := by
  obtain ⟨⟨x, y, z⟩, f, m⟩ := x
  obtain rfl | rfl | rfl : n = 0 ∨ n = 1 ∨ n = 2 := by omega
  · exact ⟨60, really0_run x y z f m⟩
  · exact ⟨60, really1_run x y z f m⟩
  · exact ⟨60, really2_run x y z f m⟩
theorem missing1_ok (x : Ch) : RV ft 61 [encCh x] (I64 x.m) := by
  refine RV_of ft61 rfl ?_
  simp only [c61, r61]
  simp only [go_sem, Nat.reduceEqDiff, Nat.reduceAdd, Nat.reduceLT, Nat.reduceLeDiff, reduceIte]
end Go.Ab.T
end

section
namespace Go.Ab.T
set_option maxRecDepth 8000
set_option maxHeartbeats 4000000
theorem get_midL {α : Type} (A : List α) (b : α) (C : List α) : (A ++ b :: C)[A.length]? = some b := by simp
theorem set_midL {α : Type} (A : List α) (b c : α) (C : List α) : (A ++ b :: C).set A.length c = A ++ c :: C := by simp
def cSell : AV := .fn 97 [] [.ptr 1 0 0, .ptr 0 0 0, .ptr 2 0 0]
def spM (s : V3) (A : AV) (bl : List Blk) (toks : List (Nat × Nat)) : Mem := ⟨.live [encV s] 3 :: .live [A] 1 :: .live [cSell] 1 :: bl, toks⟩
/-- What sell does from a show on. -/
def SellW (n : Int) (f : V3 → V3 → Int → List V3) : Prop := ∀ (s t : V3) (left : Int) (L : List V3) (A : AV) (bl : List Blk) (toks : List (Nat × Nat)) (K : AV → Mem → Prop), s.bd 100 → 0 ≤ left → left ≤ 100 → Acc 64 (L.map encV) A toks → (L ++ f s t left).length ≤ 10000000 →
    (∀ A' bl' toks', Acc 64 ((L ++ f s t left).map encV) A' toks' → K (.tup []) (spM s A' (bl ++ bl') toks')) → WR ft (.f 97) [encV t, I64 n, I64 left, .ptr 1 0 0, .ptr 0 0 0, .ptr 2 0 0] (spM s A bl toks) K
theorem sell3 : SellW 3 (fun _ t left => sp3 t left) := by
  intro s t left L A bl toks K _ _ _ hA hl hK
  dsimp only at hl hK
  rw [WR_f ft97 rfl]
  simp only [c97, r97, spM]
  obtain ⟨a1, a2, a3⟩ := hA.cells
  have hl' : L.length ≤ 10000000 := by rw [List.length_append] at hl; omega
  cases h : (left == 0)
  · have hne : ¬left = 0 := by rintro rfl; simp at h
    unfold sp3 at hK
    rw [if_neg hne, List.append_nil] at hK
    simp only [go_sem, Nat.reduceEqDiff, Nat.reduceAdd, Nat.reduceLT, Nat.reduceLeDiff, reduceIte, h]
    exact hK A _ toks hA
  · have he : left = 0 := beq_iff_eq.1 h
    unfold sp3 at hK
    rw [if_pos he] at hK
    simp only [go_sem, Nat.reduceEqDiff, Nat.reduceAdd, Nat.reduceLT, Nat.reduceLeDiff, reduceIte, h, a1, a2, a3]
    refine hA.app (y := encV t) (cellsVs L) rfl (by rw [List.length_map]; unfold limit; omega) fun A' toks' hA' => ?_
    obtain ⟨b1, b2, b3⟩ := hA'.cells
    simp only [go_sem, Nat.reduceEqDiff, Nat.reduceAdd, Nat.reduceLT, Nat.reduceLeDiff, reduceIte, a1, a2, a3, b1, b2, b3]
    exact hK A' _ toks' (by rw [List.map_append]; exact hA')
def rgN (k n : Nat) : List Int := (List.range' k n).map fun i : Nat => (i : Int)
theorem rgN_succ (k n : Nat) : rgN k (n + 1) = (k : Int) :: rgN (k + 1) n := by simp [rgN, List.range'_succ]
theorem rg_rgN (m : Int) : rg m = rgN 0 (m + 1).toNat := by simp [rg, rgN, List.range_eq_range']
theorem sell2 : SellW 2 sp2 := by
  intro s t left L A bl toks K hs h0 h1 hA hl hK
  rw [WR_f ft97 rfl]
  simp only [c97, r97, spM]
  obtain ⟨⟨sx0, sx1⟩, ⟨sy0, sy1⟩, ⟨sz0, sz1⟩⟩ := hs
  have hs : s.bd 100 := ⟨⟨sx0, sx1⟩, ⟨sy0, sy1⟩, ⟨sz0, sz1⟩⟩
  have q1 : ((2 : Int) == 3) = false := rfl
  have q2 : ((0 : Int) ≤ 2 ∧ (2 : Int) < ((3 : Nat) : Int)) = True := by simp
  have q3 : IntKind.i64.wrap (2 + 1) = 3 := by decide
  have q4 : Int.toNat 2 = 2 := rfl
  have q5 : 0 + 2 * 1 = 2 := rfl
  simp only [go_sem, Nat.reduceEqDiff, Nat.reduceAdd, Nat.reduceLT, Nat.reduceLeDiff, reduceIte, q1, q2, q4, q5, wrap_i64 (min left s.z + 1) (by omega) (by omega)]
  have hfull : L ++ sp2 s t left = L ++ (rgN 0 (min left s.z + 1).toNat).flatMap (fun n => sp3 ⟨t.x, t.y, n⟩ (left - n)) := by rw [← rg_rgN]; rfl
  refine WL_inv (α := Nat × List V3 × AV × List Blk × List (Nat × Nat) × Int) (fun q e mm => (e 0 = encV t ∧ e 1 = I64 2 ∧ e 2 = I64 left ∧ e 3 = .ptr 1 0 0 ∧ e 4 = .ptr 0 0 0 ∧ e 5 = .ptr 2 0 0) ∧ e 6 = .ptr (bl.length + 1 + 1 + 1) 0 0 ∧ e 23 = I64 (min left s.z + 1) ∧ e 24 = I64 q.1 ∧ q.1 ≤ (min left s.z + 1).toNat ∧
    q.2.1 ++ (rgN q.1 ((min left s.z + 1).toNat - q.1)).flatMap (fun n => sp3 ⟨t.x, t.y, n⟩ (left - n)) = L ++ sp2 s t left ∧ Acc 64 (q.2.1.map encV) q.2.2.1 q.2.2.2.2.1 ∧
    mm = ⟨.live [encV s] 3 :: .live [q.2.2.1] 1 :: .live [cSell] 1 :: (bl ++ .live [encV ⟨t.x, t.y, q.2.2.2.2.2⟩] 3 :: q.2.2.2.1), q.2.2.2.2.1⟩) (fun q => (min left s.z + 1).toNat - q.1) (0, L, A, [], toks, t.z) ?_ ?_
  · simp only [go_sem, Nat.reduceEqDiff, Nat.reduceAdd, Nat.reduceLT, Nat.reduceLeDiff, reduceIte]
    ((repeat' apply And.intro) <;> first | trivial | rfl | assumption | omega | (exact Nat.zero_le _) | (rw [hfull]; rfl))
  rintro ⟨k, L', A', bl', toks', w⟩ e m ⟨⟨g0, g1, g2, g3, g4, g5⟩, g6, g23, g24, hkl, hq, hA', rfl⟩
  dsimp only at g24 hkl hq hA'
  by_cases hk : (k : Int) < min left s.z + 1
  rotate_left
  · have hz : (min left s.z + 1).toNat - k = 0 := by omega
    rw [hz] at hq
    simp only [rgN, List.range'_zero, List.map_nil, List.flatMap_nil, List.append_nil] at hq
    rw [hq] at hA'
    simp only [go_sem, Nat.reduceEqDiff, Nat.reduceAdd, Nat.reduceLT, Nat.reduceLeDiff, reduceIte, g0, g1, g2, g3, g4, g5, g6, g23, g24, decide_eq_false hk]
    exact hK A' _ toks' hA'
  obtain ⟨j, hj⟩ : ∃ j, (min left s.z + 1).toNat - k = j + 1 := ⟨(min left s.z + 1).toNat - k - 1, by omega⟩
  rw [hj, rgN_succ, List.flatMap_cons, ← List.append_assoc] at hq
  have hlen : (L' ++ (fun n => sp3 ⟨t.x, t.y, n⟩ (left - n)) (k : Int)).length ≤ 10000000 := by
    have := congrArg List.length hq
    rw [List.length_append] at this
    rw [← this] at hl
    exact Nat.le_trans (Nat.le_add_right _ _) hl
  have wc : writeCells (encV ⟨t.x, t.y, w⟩) 2 [I64 k] = some (encV ⟨t.x, t.y, (k : Int)⟩) := rfl
  simp only [go_sem, Nat.reduceEqDiff, Nat.reduceAdd, Nat.reduceLT, Nat.reduceLeDiff, reduceIte, g0, g1, g2, g3, g4, g5, g6, g23, g24, decide_eq_true hk, q2, q4, q5, get_midL, set_midL, wc, q3, cSell, WB97, wrap_i64 (left - (k : Int)) (by omega) (by omega)]
  refine sell3 s ⟨t.x, t.y, (k : Int)⟩ (left - k) L' A' (bl ++ .live [encV ⟨t.x, t.y, (k : Int)⟩] 3 :: bl') toks' _ hs (by omega) (by omega) hA' hlen fun A2 bl2 toks2 hA2 => ?_
  simp only [go_sem, Nat.reduceEqDiff, Nat.reduceAdd, Nat.reduceLT, Nat.reduceLeDiff, reduceIte, g0, g1, g2, g3, g4, g5, g6, g23, g24, spM, wrap_n1 k (by omega)]
  refine Nx_of (k + 1, L' ++ (fun n => sp3 ⟨t.x, t.y, n⟩ (left - n)) (k : Int), A2, bl' ++ bl2, toks2, k) (by show _ - (k + 1) < _ - k; omega) ?_
  simp only [go_sem, Nat.reduceEqDiff, Nat.reduceAdd, Nat.reduceLT, Nat.reduceLeDiff, reduceIte, g0, g1, g2, g3, g4, g5, g6, g23, List.append_assoc]
  ((repeat' apply And.intro) <;> first | trivial | rfl | assumption | omega | (exact hA2) | ((rw [show (min left s.z + 1).toNat - (k + 1) = j by omega, ← List.append_assoc]; exact hq)))
theorem sell1 : SellW 1 sp1 := by
  intro s t left L A bl toks K hs h0 h1 hA hl hK
  rw [WR_f ft97 rfl]
  simp only [c97, r97, spM]
  obtain ⟨⟨sx0, sx1⟩, ⟨sy0, sy1⟩, ⟨sz0, sz1⟩⟩ := hs
  have hs : s.bd 100 := ⟨⟨sx0, sx1⟩, ⟨sy0, sy1⟩, ⟨sz0, sz1⟩⟩
  have q1 : ((1 : Int) == 3) = false := rfl
  have q2 : ((0 : Int) ≤ 1 ∧ (1 : Int) < ((3 : Nat) : Int)) = True := by simp
  have q3 : IntKind.i64.wrap (1 + 1) = 2 := by decide
  have q4 : Int.toNat 1 = 1 := rfl
  have q5 : 0 + 1 * 1 = 1 := rfl
  simp only [go_sem, Nat.reduceEqDiff, Nat.reduceAdd, Nat.reduceLT, Nat.reduceLeDiff, reduceIte, q1, q2, q4, q5, wrap_i64 (min left s.y + 1) (by omega) (by omega)]
  have hfull : L ++ sp1 s t left = L ++ (rgN 0 (min left s.y + 1).toNat).flatMap (fun n => sp2 s ⟨t.x, n, t.z⟩ (left - n)) := by rw [← rg_rgN]; rfl
  refine WL_inv (α := Nat × List V3 × AV × List Blk × List (Nat × Nat) × Int) (fun q e mm => (e 0 = encV t ∧ e 1 = I64 1 ∧ e 2 = I64 left ∧ e 3 = .ptr 1 0 0 ∧ e 4 = .ptr 0 0 0 ∧ e 5 = .ptr 2 0 0) ∧ e 6 = .ptr (bl.length + 1 + 1 + 1) 0 0 ∧ e 23 = I64 (min left s.y + 1) ∧ e 24 = I64 q.1 ∧ q.1 ≤ (min left s.y + 1).toNat ∧
    q.2.1 ++ (rgN q.1 ((min left s.y + 1).toNat - q.1)).flatMap (fun n => sp2 s ⟨t.x, n, t.z⟩ (left - n)) = L ++ sp1 s t left ∧ Acc 64 (q.2.1.map encV) q.2.2.1 q.2.2.2.2.1 ∧
    mm = ⟨.live [encV s] 3 :: .live [q.2.2.1] 1 :: .live [cSell] 1 :: (bl ++ .live [encV ⟨t.x, q.2.2.2.2.2, t.z⟩] 3 :: q.2.2.2.1), q.2.2.2.2.1⟩) (fun q => (min left s.y + 1).toNat - q.1) (0, L, A, [], toks, t.y) ?_ ?_
  · simp only [go_sem, Nat.reduceEqDiff, Nat.reduceAdd, Nat.reduceLT, Nat.reduceLeDiff, reduceIte]
    ((repeat' apply And.intro) <;> first | trivial | rfl | assumption | omega | (exact Nat.zero_le _) | (rw [hfull]; rfl))
  rintro ⟨k, L', A', bl', toks', w⟩ e m ⟨⟨g0, g1, g2, g3, g4, g5⟩, g6, g23, g24, hkl, hq, hA', rfl⟩
  dsimp only at g24 hkl hq hA'
  by_cases hk : (k : Int) < min left s.y + 1
  rotate_left
  · have hz : (min left s.y + 1).toNat - k = 0 := by omega
    rw [hz] at hq
    simp only [rgN, List.range'_zero, List.map_nil, List.flatMap_nil, List.append_nil] at hq
    rw [hq] at hA'
    simp only [go_sem, Nat.reduceEqDiff, Nat.reduceAdd, Nat.reduceLT, Nat.reduceLeDiff, reduceIte, g0, g1, g2, g3, g4, g5, g6, g23, g24, decide_eq_false hk]
    exact hK A' _ toks' hA'
  obtain ⟨j, hj⟩ : ∃ j, (min left s.y + 1).toNat - k = j + 1 := ⟨(min left s.y + 1).toNat - k - 1, by omega⟩
  rw [hj, rgN_succ, List.flatMap_cons, ← List.append_assoc] at hq
  have hlen : (L' ++ (fun n => sp2 s ⟨t.x, n, t.z⟩ (left - n)) (k : Int)).length ≤ 10000000 := by
    have := congrArg List.length hq
    rw [List.length_append] at this
    rw [← this] at hl
    exact Nat.le_trans (Nat.le_add_right _ _) hl
  have wc : writeCells (encV ⟨t.x, w, t.z⟩) 1 [I64 k] = some (encV ⟨t.x, (k : Int), t.z⟩) := rfl
  simp only [go_sem, Nat.reduceEqDiff, Nat.reduceAdd, Nat.reduceLT, Nat.reduceLeDiff, reduceIte, g0, g1, g2, g3, g4, g5, g6, g23, g24, decide_eq_true hk, q2, q4, q5, get_midL, set_midL, wc, q3, cSell, WB97, wrap_i64 (left - (k : Int)) (by omega) (by omega)]
  refine sell2 s ⟨t.x, (k : Int), t.z⟩ (left - k) L' A' (bl ++ .live [encV ⟨t.x, (k : Int), t.z⟩] 3 :: bl') toks' _ hs (by omega) (by omega) hA' hlen fun A2 bl2 toks2 hA2 => ?_
  simp only [go_sem, Nat.reduceEqDiff, Nat.reduceAdd, Nat.reduceLT, Nat.reduceLeDiff, reduceIte, g0, g1, g2, g3, g4, g5, g6, g23, g24, spM, wrap_n1 k (by omega)]
  refine Nx_of (k + 1, L' ++ (fun n => sp2 s ⟨t.x, n, t.z⟩ (left - n)) (k : Int), A2, bl' ++ bl2, toks2, k) (by show _ - (k + 1) < _ - k; omega) ?_
  simp only [go_sem, Nat.reduceEqDiff, Nat.reduceAdd, Nat.reduceLT, Nat.reduceLeDiff, reduceIte, g0, g1, g2, g3, g4, g5, g6, g23, List.append_assoc]
  ((repeat' apply And.intro) <;> first | trivial | rfl | assumption | omega | (exact hA2) | ((rw [show (min left s.y + 1).toNat - (k + 1) = j by omega, ← List.append_assoc]; exact hq)))
theorem sell0 : SellW 0 sp0 := by
  intro s t left L A bl toks K hs h0 h1 hA hl hK
  rw [WR_f ft97 rfl]
  simp only [c97, r97, spM]
  obtain ⟨⟨sx0, sx1⟩, ⟨sy0, sy1⟩, ⟨sz0, sz1⟩⟩ := hs
  have hs : s.bd 100 := ⟨⟨sx0, sx1⟩, ⟨sy0, sy1⟩, ⟨sz0, sz1⟩⟩
  have q1 : ((0 : Int) == 3) = false := rfl
  have q2 : ((0 : Int) ≤ 0 ∧ (0 : Int) < ((3 : Nat) : Int)) = True := by simp
  have q3 : IntKind.i64.wrap (0 + 1) = 1 := by decide
  have q4 : Int.toNat 0 = 0 := rfl
  have q5 : 0 + 0 * 1 = 0 := rfl
  simp only [go_sem, Nat.reduceEqDiff, Nat.reduceAdd, Nat.reduceLT, Nat.reduceLeDiff, reduceIte, q1, q2, q4, q5, wrap_i64 (min left s.x + 1) (by omega) (by omega)]
  have hfull : L ++ sp0 s t left = L ++ (rgN 0 (min left s.x + 1).toNat).flatMap (fun n => sp1 s ⟨n, t.y, t.z⟩ (left - n)) := by rw [← rg_rgN]; rfl
  refine WL_inv (α := Nat × List V3 × AV × List Blk × List (Nat × Nat) × Int) (fun q e mm => (e 0 = encV t ∧ e 1 = I64 0 ∧ e 2 = I64 left ∧ e 3 = .ptr 1 0 0 ∧ e 4 = .ptr 0 0 0 ∧ e 5 = .ptr 2 0 0) ∧ e 6 = .ptr (bl.length + 1 + 1 + 1) 0 0 ∧ e 23 = I64 (min left s.x + 1) ∧ e 24 = I64 q.1 ∧ q.1 ≤ (min left s.x + 1).toNat ∧
    q.2.1 ++ (rgN q.1 ((min left s.x + 1).toNat - q.1)).flatMap (fun n => sp1 s ⟨n, t.y, t.z⟩ (left - n)) = L ++ sp0 s t left ∧ Acc 64 (q.2.1.map encV) q.2.2.1 q.2.2.2.2.1 ∧
    mm = ⟨.live [encV s] 3 :: .live [q.2.2.1] 1 :: .live [cSell] 1 :: (bl ++ .live [encV ⟨q.2.2.2.2.2, t.y, t.z⟩] 3 :: q.2.2.2.1), q.2.2.2.2.1⟩) (fun q => (min left s.x + 1).toNat - q.1) (0, L, A, [], toks, t.x) ?_ ?_
  · simp only [go_sem, Nat.reduceEqDiff, Nat.reduceAdd, Nat.reduceLT, Nat.reduceLeDiff, reduceIte]
    ((repeat' apply And.intro) <;> first | trivial | rfl | assumption | omega | (exact Nat.zero_le _) | (rw [hfull]; rfl))
  rintro ⟨k, L', A', bl', toks', w⟩ e m ⟨⟨g0, g1, g2, g3, g4, g5⟩, g6, g23, g24, hkl, hq, hA', rfl⟩
  dsimp only at g24 hkl hq hA'
  by_cases hk : (k : Int) < min left s.x + 1
  rotate_left
  · have hz : (min left s.x + 1).toNat - k = 0 := by omega
    rw [hz] at hq
    simp only [rgN, List.range'_zero, List.map_nil, List.flatMap_nil, List.append_nil] at hq
    rw [hq] at hA'
    simp only [go_sem, Nat.reduceEqDiff, Nat.reduceAdd, Nat.reduceLT, Nat.reduceLeDiff, reduceIte, g0, g1, g2, g3, g4, g5, g6, g23, g24, decide_eq_false hk]
    exact hK A' _ toks' hA'
  obtain ⟨j, hj⟩ : ∃ j, (min left s.x + 1).toNat - k = j + 1 := ⟨(min left s.x + 1).toNat - k - 1, by omega⟩
  rw [hj, rgN_succ, List.flatMap_cons, ← List.append_assoc] at hq
  have hlen : (L' ++ (fun n => sp1 s ⟨n, t.y, t.z⟩ (left - n)) (k : Int)).length ≤ 10000000 := by
    have := congrArg List.length hq
    rw [List.length_append] at this
    rw [← this] at hl
    exact Nat.le_trans (Nat.le_add_right _ _) hl
  have wc : writeCells (encV ⟨w, t.y, t.z⟩) 0 [I64 k] = some (encV ⟨(k : Int), t.y, t.z⟩) := rfl
  simp only [go_sem, Nat.reduceEqDiff, Nat.reduceAdd, Nat.reduceLT, Nat.reduceLeDiff, reduceIte, g0, g1, g2, g3, g4, g5, g6, g23, g24, decide_eq_true hk, q2, q4, q5, get_midL, set_midL, wc, q3, cSell, WB97, wrap_i64 (left - (k : Int)) (by omega) (by omega)]
  refine sell1 s ⟨(k : Int), t.y, t.z⟩ (left - k) L' A' (bl ++ .live [encV ⟨(k : Int), t.y, t.z⟩] 3 :: bl') toks' _ hs (by omega) (by omega) hA' hlen fun A2 bl2 toks2 hA2 => ?_
  simp only [go_sem, Nat.reduceEqDiff, Nat.reduceAdd, Nat.reduceLT, Nat.reduceLeDiff, reduceIte, g0, g1, g2, g3, g4, g5, g6, g23, g24, spM, wrap_n1 k (by omega)]
  refine Nx_of (k + 1, L' ++ (fun n => sp1 s ⟨n, t.y, t.z⟩ (left - n)) (k : Int), A2, bl' ++ bl2, toks2, k) (by show _ - (k + 1) < _ - k; omega) ?_
  simp only [go_sem, Nat.reduceEqDiff, Nat.reduceAdd, Nat.reduceLT, Nat.reduceLeDiff, reduceIte, g0, g1, g2, g3, g4, g5, g6, g23, List.append_assoc]
  ((repeat' apply And.intro) <;> first | trivial | rfl | assumption | omega | (exact hA2) | ((rw [show (min left s.x + 1).toNat - (k + 1) = j by omega, ← List.append_assoc]; exact hq)))
theorem spl_len (n : Int) (s : V3) (hn : n ≤ 100) (hs : s.bd 100) : (spl n s).length ≤ 10000000 := by
  have fl : ∀ (l : List Int) (f : Int → List V3) (B : Nat), (∀ x, (f x).length ≤ B) → (l.flatMap f).length ≤ l.length * B := by
    intro l f B h
    induction l with
    | nil => simp
    | cons a l ih => rw [List.flatMap_cons, List.length_append, List.length_cons, Nat.add_mul]; have := h a; omega
  have rl : ∀ m : Int, m ≤ 100 → (rg m).length ≤ 101 := fun m hm => by unfold rg; rw [List.length_map, List.length_range]; omega
  have r3 : ∀ t l, (sp3 t l).length ≤ 1 := fun t l => by unfold sp3; split <;> simp
  simp only [V3.bd] at hs
  have r2 : ∀ t l, (sp2 s t l).length ≤ 101 := fun t l => by
    have h1 := fl (rg (min l s.z)) (fun n => sp3 ⟨t.x, t.y, n⟩ (l - n)) 1 fun _ => r3 _ _
    have h2 := rl (min l s.z) (by omega)
    exact Nat.le_trans h1 (by omega)
  have r1 : ∀ t l, (sp1 s t l).length ≤ 10201 := fun t l => by
    have h1 := fl (rg (min l s.y)) (fun n => sp2 s ⟨t.x, n, t.z⟩ (l - n)) 101 fun _ => r2 _ _
    have h2 := rl (min l s.y) (by omega)
    exact Nat.le_trans h1 (by omega)
  have h1 := fl (rg (min n s.x)) (fun m => sp1 s ⟨m, 0, 0⟩ (n - m)) 10201 fun _ => r1 _ _
  have h2 := rl (min n s.x) (by omega)
  exact Nat.le_trans h1 (by omega)
theorem splits_ok {n : Int} {s : V3} (h0 : 0 ≤ n) (h1 : n ≤ 100) (hs : s.bd 100) : RV ft 89 [I64 n, encV s] (encVs (spl n s)) := by
  refine RV_of ft89 rfl ?_
  simp only [c89, r89]
  simp only [go_sem, Nat.reduceEqDiff, Nat.reduceAdd, Nat.reduceLT, Nat.reduceLeDiff, reduceIte, WB97]
  refine sell0 s V3.zero n [] (.sl [] .tight) [] [] _ hs h0 h1 (Acc_nil 64) (by rw [List.nil_append]; exact spl_len n s h1 hs) fun A' bl' toks' hA' => ?_
  obtain ⟨b1, b2, b3⟩ := hA'.cells
  simp only [go_sem, Nat.reduceEqDiff, Nat.reduceAdd, Nat.reduceLT, Nat.reduceLeDiff, reduceIte, spM, b1]
  rw [hA'.snap]
  rw [List.nil_append, List.map_map, show snap _ 11 ∘ encV = encV from funext fun t => snV _ 9 t]
  rfl
end Go.Ab.T
end
