/-
  A part of the proofs over this seat.
  (The texts KsM3 KsK9 KsK10, one behind the other.)
-/
import Derived.Test.YtapkbaihdcabnaaP3
import Derived.KernelRfl
set_option linter.unusedSimpArgs false
set_option linter.unusedVariables false
set_option linter.unusedSectionVars false
section
namespace Go.Ab.T
/-- No number of an account is far from 0. -/
structure AcB (a : Ac) (B : Int) : Prop where
  g0 : 0 ≤ a.gr
  g1 : a.gr ≤ B
  t0 : 0 ≤ a.tx
  t1 : a.tx ≤ B
  n0 : 0 ≤ a.net
  n1 : a.net ≤ B
  s0 : 0 ≤ a.sh
  s1 : a.sh ≤ B
  h0 : 0 ≤ a.ho
  h1 : a.ho ≤ B
theorem AcB.mono {a : Ac} {A B : Int} (ha : AcB a A) (h : A ≤ B) : AcB a B := by
  obtain ⟨a1, a2, a3, a4, a5, a6, a7, a8, a9, a10⟩ := ha
  constructor <;> omega
def weekM (b : Bk) (f w : Int) : Ac × Int := if chk b = 0 then (match findC f b.cs with | none => (zA, 1) | some c => if inR w c.fi c.la = true then (acc b c w, 0) else (zA, 1)) else (zA, chk b)
def dueMM (b : Bk) (f w : Int) : Int × Int := if chk b = 0 then (match findC f b.cs with | none => (0, 1) | some c => if wkR w = true then (dueM b c w, 0) else (0, 1)) else (0, chk b)
end Go.Ab.T
end

section
namespace Go.Ab.T
set_option maxRecDepth 8000
set_option maxHeartbeats 4000000
theorem rlen {b : Bk} (h : BV b) : b.rs.length < 1000 := by have := h.rl; omega
theorem accountOf_ok (b : Bk) (hb : BV b) (c : Ct) (h : CV c) (w : Int) (h0 : c.fi ≤ w) (h1 : w ≤ c.la) : RV ft 44 [encB b, encC c, I64 w] (encA (acc b c w)) := by
  refine RV_of ft44 rfl ?_
  simp only [c44, r44]
  have hg := gross_bound hb.rv c.film w
  simp only [go_sem, Nat.reduceEqDiff, Nat.reduceAdd, Nat.reduceLT, Nat.reduceLeDiff, reduceIte, WB70, WVH_eq (grossOf_ok b.rs c.film w (rlen hb) hb.rv), true_and, WB62, WVH_eq (account_ok b.tax hb.x0 hb.x1 c h w _ h0 h1 hg.1 hg.2)]
  rfl
theorem fldSh (a : Ac) : fldAt (encA a) 3 none = some (I64 a.sh) := rfl
theorem due_ok (b : Bk) (hb : BV b) (c : Ct) (h : CV c) (w : Int) (hw0 : 0 ≤ w) (hw1 : w ≤ 99) : RV ft 48 [encB b, encC c, I64 w] (I64 (dueM b c w)) := by
  refine RV_of ft48 rfl ?_
  simp only [c48, r48]
  have a0 := h.a0
  have a1 := h.a1
  have a2 := h.a2
  have gu0 := h.g0
  have gu1 := h.g1
  simp only [go_sem, Nat.reduceEqDiff, Nat.reduceAdd, Nat.reduceLT, Nat.reduceLeDiff, reduceIte]
  refine WL_inv (α := Nat) (fun q e mm => e 2 = I64 w ∧ e 3 = .ptr 0 0 0 ∧ e 4 = .ptr 1 0 0 ∧ e 7 = I64 (shSum b c q) ∧ e 8 = I64 (c.fi + q) ∧ q ≤ (min w c.la - c.fi + 1).toNat ∧ mm = ⟨[.live [encB b] 3, .live [encC c] 9], []⟩) (fun q => 200 - q) 0 ?_ ?_
  · simp only [go_sem, Nat.reduceEqDiff, Nat.reduceAdd, Nat.reduceLT, Nat.reduceLeDiff, reduceIte]
    refine ⟨trivial, trivial, trivial, rfl, ?_, by omega, trivial⟩
    congr 1; omega
  rintro q e m ⟨g2, g3, g4, g7, g8, hq, rfl⟩
  have hs := shSum_bound hb h q
  have hqb : (q : Int) ≤ 100 := by omega
  by_cases hc : c.fi + q ≤ min w c.la
  · have c1 : decide (c.fi + (q : Int) ≤ min w c.la) = true := decide_eq_true hc
    have hA := acc_bound hb h (c.fi + q)
    have w1 : IntKind.i64.wrap (shSum b c q + (acc b c (c.fi + q)).sh) = shSum b c (q + 1) := wrap_i64 _ (by omega) (by omega)
    have w2 : IntKind.i64.wrap (c.fi + (q : Int) + 1) = c.fi + ((q + 1 : Nat) : Int) := by rw [wrap_i64 _ (by omega) (by omega)]; omega
    simp only [go_sem, Nat.reduceEqDiff, Nat.reduceAdd, Nat.reduceLT, Nat.reduceLeDiff, reduceIte, g2, g3, g4, g7, g8, c1, WB44, WVH_eq (accountOf_ok b hb c h (c.fi + q) (by omega) (by omega)), true_and, fldSh, w1, w2]
    refine Nx_of (q + 1) (by simp; omega) ?_
    simp only [go_sem, Nat.reduceEqDiff, Nat.reduceAdd, Nat.reduceLT, Nat.reduceLeDiff, reduceIte, g2, g3, g4]
    exact ⟨trivial, trivial, trivial, trivial, trivial, by omega, trivial⟩
  · have c1 : decide (c.fi + (q : Int) ≤ min w c.la) = false := decide_eq_false hc
    have hq' : q = (min w c.la - c.fi + 1).toNat := by omega
    unfold dueM
    cases c2 : decide (w < c.la)
    · have hn := of_decide_eq_false c2
      have c3 : decide (c.la ≤ w) = true := decide_eq_true (by omega)
      have : q = (c.la - c.fi + 1).toNat := by omega
      rw [if_neg hn, ← this]
      simp only [go_sem, Nat.reduceEqDiff, Nat.reduceAdd, Nat.reduceLT, Nat.reduceLeDiff, reduceIte, g2, g3, g4, g7, g8, c1, c2, c3]
    · have hn := of_decide_eq_true c2
      have c3 : decide (c.la ≤ w) = false := decide_eq_false (by omega)
      have : q = (w - c.fi + 1).toNat := by omega
      rw [if_pos hn, ← this]
      simp only [go_sem, Nat.reduceEqDiff, Nat.reduceAdd, Nat.reduceLT, Nat.reduceLeDiff, reduceIte, g2, g3, g4, g7, g8, c1, c2, c3]
theorem ne0 {n : Int} (h : n ≠ 0) : (n != 0) = true := by simpa using h
theorem contractIn_ok (b : Bk) (h : NF b) (f w : Int) : RV ft 45 [encB b, I64 f, I64 w] (if chk b = 0 then (match findC f b.cs with | none => .tup [encC zC, I64 1] | some c => if inR w c.fi c.la = true then .tup [encC c, I64 0] else .tup [encC zC, I64 1]) else .tup [encC zC, I64 (chk b)]) := by
  refine RV_of ft45 rfl ?_
  simp only [c45, r45]
  by_cases h0 : chk b = 0
  · rw [if_pos h0]
    have hf := find_ok b.cs f h.c
    have hC := Check_ok b h
    rw [h0] at hC
    cases hs : findC f b.cs with
    | none =>
      rw [hs] at hf
      simp only [go_sem, Nat.reduceEqDiff, Nat.reduceAdd, Nat.reduceLT, Nat.reduceLeDiff, reduceIte, WB31, WVH_eq hC, true_and, show ((0 : Int) != 0) = false from rfl, WB46, WVH_eq hf, Option.getD, Option.isSome]
      rfl
    | some c =>
      rw [hs] at hf
      dsimp only
      cases hi : inR w c.fi c.la
      · simp only [go_sem, Nat.reduceEqDiff, Nat.reduceAdd, Nat.reduceLT, Nat.reduceLeDiff, reduceIte, WB31, WVH_eq hC, true_and, show ((0 : Int) != 0) = false from rfl, WB46, WVH_eq hf, Option.getD, Option.isSome, WB42, WVH_eq (hasWeek_ok _ _), hi]
        rfl
      · simp only [go_sem, Nat.reduceEqDiff, Nat.reduceAdd, Nat.reduceLT, Nat.reduceLeDiff, reduceIte, WB31, WVH_eq hC, true_and, show ((0 : Int) != 0) = false from rfl, WB46, WVH_eq hf, Option.getD, Option.isSome, WB42, WVH_eq (hasWeek_ok _ _), hi]
  · rw [if_neg h0]
    simp only [go_sem, Nat.reduceEqDiff, Nat.reduceAdd, Nat.reduceLT, Nat.reduceLeDiff, reduceIte, WB31, WVH_eq (Check_ok b h), true_and, ne0 h0]
    rfl
theorem Week_ok (b : Bk) (h : NF b) (f w : Int) : RV ft 19 [encB b, I64 f, I64 w] (.tup [encA (weekM b f w).1, I64 (weekM b f w).2]) := by
  refine RV_of ft19 rfl ?_
  simp only [c19, r19]
  have hI := contractIn_ok b h f w
  unfold weekM
  by_cases h0 : chk b = 0
  · rw [if_pos h0] at hI ⊢
    have hb := chk_BV h0
    cases hs : findC f b.cs with
    | none =>
      rw [hs] at hI
      simp only [go_sem, Nat.reduceEqDiff, Nat.reduceAdd, Nat.reduceLT, Nat.reduceLeDiff, reduceIte, WB45, WVH_eq hI, true_and, show ((1 : Int) != 0) = true from rfl]
      rfl
    | some c =>
      rw [hs] at hI
      have hc := hb.cv c (findC_mem hs).1
      dsimp only at hI ⊢
      cases hi : inR w c.fi c.la
      · rw [hi] at hI
        have hI : RV ft 45 [encB b, I64 f, I64 w] (.tup [encC zC, I64 1]) := hI
        simp only [go_sem, Nat.reduceEqDiff, Nat.reduceAdd, Nat.reduceLT, Nat.reduceLeDiff, reduceIte, WB45, WVH_eq hI, true_and, show ((1 : Int) != 0) = true from rfl]
        rfl
      · rw [hi] at hI
        have hI : RV ft 45 [encB b, I64 f, I64 w] (.tup [encC c, I64 0]) := hI
        obtain ⟨i0, i1⟩ := inR_iff.1 hi
        simp only [go_sem, Nat.reduceEqDiff, Nat.reduceAdd, Nat.reduceLT, Nat.reduceLeDiff, reduceIte, WB45, WVH_eq hI, true_and, show ((0 : Int) != 0) = false from rfl, WB44, WVH_eq (accountOf_ok b hb c hc w i0 i1)]
  · rw [if_neg h0] at hI ⊢
    simp only [go_sem, Nat.reduceEqDiff, Nat.reduceAdd, Nat.reduceLT, Nat.reduceLeDiff, reduceIte, WB45, WVH_eq hI, true_and, ne0 h0]
    rfl
theorem Due_ok (b : Bk) (h : NF b) (f w : Int) : RV ft 23 [encB b, I64 f, I64 w] (.tup [I64 (dueMM b f w).1, I64 (dueMM b f w).2]) := by
  refine RV_of ft23 rfl ?_
  simp only [c23, r23]
  have hf := find_ok b.cs f h.c
  unfold dueMM
  by_cases h0 : chk b = 0
  · rw [if_pos h0]
    have hb := chk_BV h0
    have hC := Check_ok b h
    rw [h0] at hC
    cases hs : findC f b.cs with
    | none =>
      rw [hs] at hf
      simp only [go_sem, Nat.reduceEqDiff, Nat.reduceAdd, Nat.reduceLT, Nat.reduceLeDiff, reduceIte, WB31, WVH_eq hC, true_and, show ((0 : Int) != 0) = false from rfl, WB46, WVH_eq hf, Option.getD, Option.isSome]
    | some c =>
      rw [hs] at hf
      have hc := hb.cv c (findC_mem hs).1
      dsimp only
      cases hi : wkR w
      · simp only [go_sem, Nat.reduceEqDiff, Nat.reduceAdd, Nat.reduceLT, Nat.reduceLeDiff, reduceIte, WB31, WVH_eq hC, true_and, show ((0 : Int) != 0) = false from rfl, WB46, WVH_eq hf, Option.getD, Option.isSome, WB47, WVH_eq (isWeek_ok _), hi]
        rfl
      · obtain ⟨i0, i1⟩ := inR_iff.1 hi
        simp only [go_sem, Nat.reduceEqDiff, Nat.reduceAdd, Nat.reduceLT, Nat.reduceLeDiff, reduceIte, WB31, WVH_eq hC, true_and, show ((0 : Int) != 0) = false from rfl, WB46, WVH_eq hf, Option.getD, Option.isSome, WB47, WVH_eq (isWeek_ok _), hi, WB48, WVH_eq (due_ok b hb c hc w i0 i1)]
  · rw [if_neg h0]
    simp only [go_sem, Nat.reduceEqDiff, Nat.reduceAdd, Nat.reduceLT, Nat.reduceLeDiff, reduceIte, WB31, WVH_eq (Check_ok b h), true_and, ne0 h0]
end Go.Ab.T
end

section
namespace Go.Ab.T
set_option maxRecDepth 8000
set_option maxHeartbeats 4000000
/-- The least number for which something is so, if it is so for all above it: by halves. -/
def bs (p : Nat → Bool) : Nat → Nat → Nat → Nat
  | 0, i, _ => i
  | n + 1, i, j => if i < j then (if p ((i + j) / 2) = true then bs p n i ((i + j) / 2) else bs p n ((i + j) / 2 + 1) j) else i
theorem bs_end (p : Nat → Bool) (n i j : Nat) (h : ¬i < j) : bs p n i j = i := by
  cases n with
  | zero => rfl
  | succ n => exact if_neg h
theorem bs_step (p : Nat → Bool) (n i j : Nat) (h : i < j) : bs p (n + 1) i j = if p ((i + j) / 2) = true then bs p n i ((i + j) / 2) else bs p n ((i + j) / 2 + 1) j := if_pos h
theorem half64 (i j : Nat) (h : i + j < 100000000) : IntKind.i64.wrap ((i : Int) + (j : Int)) = ((i + j : Nat) : Int) ∧ IntKind.u64.wrap ((i + j : Nat) : Int) = ((i + j : Nat) : Int) ∧ Int.fdiv ((i + j : Nat) : Int) (2 ^ min (1 : Int).toNat 64) = (((i + j) / 2 : Nat) : Int) ∧ IntKind.i64.wrap (((i + j) / 2 : Nat) : Int) = (((i + j) / 2 : Nat) : Int) := by
  refine ⟨?_, wrap_u64 _ (by omega) (by omega), ?_, wrap_i64 _ (by omega) (by omega)⟩
  · rw [wrap_i64 _ (by omega) (by omega)]; omega
  · rw [show min (1 : Int).toNat 64 = 1 from rfl, shr_nat, Nat.shiftRight_eq_div_pow]
theorem Search_ok (N : Nat) (hN : N < 40000000) (f : AV) (p : Nat → Bool) (hf : ∀ n : Nat, n < N → ∀ (e : Nat → AV) (m : Mem) (K : AV → St → Prop), K (.bool (p n)) ⟨e, m⟩ → @WAH ft f [I64 (n : Int)] ⟨e, m⟩ ⟨K⟩) : RV ft 60 [I64 (N : Int), f] (I64 ((bs p N 0 N : Nat) : Int)) := by
  refine RV_of ft60 rfl ?_
  simp only [c60, r60]
  simp only [go_sem, Nat.reduceEqDiff, Nat.reduceAdd, Nat.reduceLT, Nat.reduceLeDiff, reduceIte]
  refine WL_inv (α := Nat × Nat × Nat) (fun q e mm => e 1 = f ∧ e 5 = I64 q.2.1 ∧ e 6 = I64 q.2.2 ∧ q.2.2 ≤ N ∧ q.2.2 - q.2.1 ≤ q.1 ∧ bs p q.1 q.2.1 q.2.2 = bs p N 0 N) (fun q => q.1) (N, 0, N) ?_ ?_
  · simp only [go_sem, Nat.reduceEqDiff, Nat.reduceAdd, Nat.reduceLT, Nat.reduceLeDiff, reduceIte]
    exact ⟨trivial, rfl, trivial, by omega, by omega, trivial⟩
  rintro ⟨n, i, j⟩ e m ⟨g1, g5, g6, hj, hn, hq⟩
  dsimp only at g5 g6 hj hn hq
  by_cases hij : i < j
  · obtain ⟨n', rfl⟩ : ∃ n', n = n' + 1 := ⟨n - 1, by omega⟩
    rw [bs_step p n' i j hij] at hq
    obtain ⟨w1, w2, w3, w4⟩ := half64 i j (by omega)
    simp only [go_sem, Nat.reduceEqDiff, Nat.reduceAdd, Nat.reduceLT, Nat.reduceLeDiff, reduceIte, g1, g5, g6, dec_lt hij, w1, w2, show decide ((1 : Int) < 0) = false from rfl, w3, w4]
    refine hf ((i + j) / 2) (by omega) _ _ _ ?_
    cases hp : p ((i + j) / 2)
    · rw [hp] at hq
      simp only [go_sem, Nat.reduceEqDiff, Nat.reduceAdd, Nat.reduceLT, Nat.reduceLeDiff, reduceIte, g1, g5, g6, wrap_n1 ((i + j) / 2) (by omega)]
      refine Nx_of (n', (i + j) / 2 + 1, j) (by simp) ?_
      simp only [go_sem, Nat.reduceEqDiff, Nat.reduceAdd, Nat.reduceLT, Nat.reduceLeDiff, reduceIte, g1, g6]
      exact ⟨trivial, trivial, trivial, hj, by omega, hq⟩
    · rw [hp] at hq
      simp only [go_sem, Nat.reduceEqDiff, Nat.reduceAdd, Nat.reduceLT, Nat.reduceLeDiff, reduceIte, g1, g5, g6]
      refine Nx_of (n', i, (i + j) / 2) (by simp) ?_
      simp only [go_sem, Nat.reduceEqDiff, Nat.reduceAdd, Nat.reduceLT, Nat.reduceLeDiff, reduceIte, g1, g5]
      exact ⟨trivial, trivial, trivial, by omega, by omega, hq⟩
  · rw [bs_end p n i j hij] at hq
    simp only [go_sem, Nat.reduceEqDiff, Nat.reduceAdd, Nat.reduceLT, Nat.reduceLeDiff, reduceIte, g1, g5, g6, dec_ge (show j ≤ i by omega)]
    rw [hq]
def shP (tax : Int) (c : Ct) (w s : Int) (n : Nat) : Bool := decide (s ≤ (settle tax c w n).sh)
def shN (tax : Int) (c : Ct) (w s : Int) : Nat := bs (shP tax c w s) 10000001 0 10000001
def reachM (b : Bk) (f w s : Int) : Int × Int := if chk b = 0 then (match findC f b.cs with | none => (0, 1) | some c => if inR w c.fi c.la = true then (if taR s = true then (if 10000000 < shN b.tax c w s then (0, 3) else ((shN b.tax c w s : Nat), 0)) else (0, 1)) else (0, 1)) else (0, chk b)
theorem reach1_ok (b : Bk) (hb : BV b) (c : Ct) (h : CV c) (w s : Int) (h0 : c.fi ≤ w) (h1 : w ≤ c.la) (n : Nat) (hn : n ≤ 10000000) : RV ft 61 [I64 (n : Int), .pv (encB b) 0, .pv (encC c) 0, .pv (I64 w) 0, .pv (I64 s) 0] (.bool (shP b.tax c w s n)) := by
  refine RV_of ft61 rfl ?_
  simp only [c61, r61]
  simp only [go_sem, Nat.reduceEqDiff, Nat.reduceAdd, Nat.reduceLT, Nat.reduceLeDiff, reduceIte, WB62, WVH_eq (account_ok b.tax hb.x0 hb.x1 c h w n h0 h1 (by omega) (by omega)), true_and, fldSh]
  rfl
theorem Reach_ok (b : Bk) (h : NF b) (f w s : Int) : RV ft 30 [encB b, I64 f, I64 w, I64 s] (.tup [I64 (reachM b f w s).1, I64 (reachM b f w s).2]) := by
  refine RV_of ft30 rfl ?_
  simp only [c30, r30]
  have hI := contractIn_ok b h f w
  unfold reachM
  by_cases h0 : chk b = 0
  case neg =>
    rw [if_neg h0] at hI ⊢
    simp only [go_sem, Nat.reduceEqDiff, Nat.reduceAdd, Nat.reduceLT, Nat.reduceLeDiff, reduceIte, WB45, WVH_eq hI, true_and, ne0 h0]
  rw [if_pos h0] at hI ⊢
  have hb := chk_BV h0
  cases hs : findC f b.cs with
  | none =>
    rw [hs] at hI
    simp only [go_sem, Nat.reduceEqDiff, Nat.reduceAdd, Nat.reduceLT, Nat.reduceLeDiff, reduceIte, WB45, WVH_eq hI, true_and, show ((1 : Int) != 0) = true from rfl]
  | some c =>
  rw [hs] at hI
  have hc := hb.cv c (findC_mem hs).1
  dsimp only at hI ⊢
  cases hi : inR w c.fi c.la
  case false =>
    rw [hi] at hI
    have hI : RV ft 45 [encB b, I64 f, I64 w] (.tup [encC zC, I64 1]) := hI
    simp only [go_sem, Nat.reduceEqDiff, Nat.reduceAdd, Nat.reduceLT, Nat.reduceLeDiff, reduceIte, WB45, WVH_eq hI, true_and, show ((1 : Int) != 0) = true from rfl]
    rfl
  rw [hi] at hI
  have hI : RV ft 45 [encB b, I64 f, I64 w] (.tup [encC c, I64 0]) := hI
  obtain ⟨i0, i1⟩ := inR_iff.1 hi
  rw [if_pos rfl]
  cases ht : taR s
  case false =>
    simp only [go_sem, Nat.reduceEqDiff, Nat.reduceAdd, Nat.reduceLT, Nat.reduceLeDiff, reduceIte, WB45, WVH_eq hI, true_and, show ((0 : Int) != 0) = false from rfl, WB59, WVH_eq (isTake_ok _), ht]
    rfl
  rw [if_pos rfl]
  have hS : RV ft 60 [I64 10000001, .fn 61 [] [.pv (encB b) 0, .pv (encC c) 0, .pv (I64 w) 0, .pv (I64 s) 0]] (I64 ((shN b.tax c w s : Nat) : Int)) := Search_ok 10000001 (by omega) _ (shP b.tax c w s) fun (n : Nat) (hn : n < 10000001) e m K hK => by
    rw [WAH_fn]
    simp only [List.nil_append, List.cons_append]
    simp only [go_sem, Nat.reduceEqDiff, Nat.reduceAdd, Nat.reduceLT, Nat.reduceLeDiff, reduceIte, WB61, WVH_eq (reach1_ok b hb c hc w s i0 i1 n (by omega)), true_and]
    exact hK
  generalize shN b.tax c w s = N at hS
  by_cases hN : 10000000 < N
  · have c1 : decide ((10000000 : Int) < (N : Int)) = true := decide_eq_true (by omega)
    rw [if_pos hN]
    simp only [go_sem, Nat.reduceEqDiff, Nat.reduceAdd, Nat.reduceLT, Nat.reduceLeDiff, reduceIte, WB45, WVH_eq hI, true_and, show ((0 : Int) != 0) = false from rfl, WB59, WVH_eq (isTake_ok _), ht, WB60, WVH_eq hS, c1]
  · have c1 : decide ((10000000 : Int) < (N : Int)) = false := decide_eq_false (by omega)
    rw [if_neg hN]
    simp only [go_sem, Nat.reduceEqDiff, Nat.reduceAdd, Nat.reduceLT, Nat.reduceLeDiff, reduceIte, WB45, WVH_eq hI, true_and, show ((0 : Int) != 0) = false from rfl, WB59, WVH_eq (isTake_ok _), ht, WB60, WVH_eq hS, c1]
def exB : Bk := ⟨100, [⟨5, 10, 12, [600, 500], [⟨20000, 700⟩], 8000, 900, 3000, 40000⟩], [⟨1, 1, 5, 10, 0, 20000⟩, ⟨2, 1, 5, 10, 1, 10000⟩, ⟨3, 1, 5, 11, 0, 5000⟩, ⟨4, 1, 5, 11, 0, 4000⟩, ⟨5, 2, 5, 12, 0, 10001⟩]⟩
theorem Example_ok : RV ft 40 [] (encB exB) := by
  refine RV_of ft40 rfl ?_
  simp only [c40, r40]
  simp only [go_sem, Nat.reduceEqDiff, Nat.reduceAdd, Nat.reduceLT, Nat.reduceLeDiff, reduceIte]
  rfl
theorem exB_NF : NF exB := ⟨by decide, by decide, fun c hc => by
  simp only [exB, List.mem_singleton] at hc
  subst hc; exact ⟨by decide, by decide⟩⟩
theorem ex1 : (weekM exB 5 10).1 = ⟨30000, 3000, 27000, 18900, 8100, 1⟩ ∧ (weekM exB 5 10).2 = 0 := ⟨by kernel_rfl, by kernel_rfl⟩
theorem ex2 : (dueMM exB 5 12).1 = 40000 ∧ (dueMM exB 5 12).2 = 0 := ⟨by kernel_rfl, by kernel_rfl⟩
theorem ex3 : (reachM exB 5 11 3000).1 = 3333 ∧ (reachM exB 5 11 3000).2 = 0 := ⟨by kernel_rfl, by kernel_rfl⟩
theorem works_ok : RV ft 16 [] (.bool true) := by
  refine RV_of ft16 rfl ?_
  simp only [c16, r16]
  have h1 := Week_ok exB exB_NF 5 10
  rw [ex1.1, ex1.2] at h1
  have h2 := Due_ok exB exB_NF 5 12
  rw [ex2.1, ex2.2] at h2
  have h3 := Reach_ok exB exB_NF 5 11 3000
  rw [ex3.1, ex3.2] at h3
  have hz : AV.agg [I64 30000, I64 3000, I64 27000, I64 18900, I64 8100, I64 1] = encA ⟨30000, 3000, 27000, 18900, 8100, 1⟩ := rfl
  simp only [go_sem, Nat.reduceEqDiff, Nat.reduceAdd, Nat.reduceLT, Nat.reduceLeDiff, reduceIte, WB40, WVH_eq Example_ok, true_and, WB19, WVH_eq h1, WB23, WVH_eq h2, WB30, WVH_eq h3, hz, eqA_self, Bool.false_eq_true, if_false]
end Go.Ab.T
end
