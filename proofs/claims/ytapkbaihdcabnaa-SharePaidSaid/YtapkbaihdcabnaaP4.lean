/-
  A part of the proofs over this seat.
  (The texts KsM3 KsK9 KsK10, one behind the other.)
-/
import Derived.Test.YtapkbaihdcabnaaP3
import Derived.KernelRfl
set_option linter.unusedSimpArgs false
set_option linter.unusedVariables false
set_option linter.unusedSectionVars false
section
namespace Go.Ab.T
/-- No number of an account is far from 0. -/
structure AcB (a : Ac) (B : Int) : Prop where
  g0 : 0 ≤ a.gr
  g1 : a.gr ≤ B
  t0 : 0 ≤ a.tx
  t1 : a.tx ≤ B
  n0 : 0 ≤ a.net
  n1 : a.net ≤ B
  s0 : 0 ≤ a.sh
  s1 : a.sh ≤ B
  h0 : 0 ≤ a.ho
  h1 : a.ho ≤ B
theorem acc_AcB {b : Bk} (hb : BV b) {c : Ct} (hc : CV c) (w : Int) : AcB (acc b c w) 100000000 := by
  have h1 := gross_bound hb.rv c.film w
  have h2 := settle_bound hb.x0 hb.x1 hc (w := w) h1.1
  have e : acc b c w = settle b.tax c w (gross b.rs c.film w) := rfl
  have e2 : (acc b c w).gr = gross b.rs c.film w := rfl
  rw [← e] at h2
  constructor <;> omega
theorem tog_AcB {a b : Ac} {A B : Int} (ha : AcB a A) (hb : AcB b B) : AcB (tog a b) (A + B) := by
  obtain ⟨a1, a2, a3, a4, a5, a6, a7, a8, a9, a10⟩ := ha
  obtain ⟨b1, b2, b3, b4, b5, b6, b7, b8, b9, b10⟩ := hb
  constructor <;> simp only [tog] <;> omega
theorem zA_AcB : AcB zA 0 := by constructor <;> simp [zA]
theorem AcB.mono {a : Ac} {A B : Int} (ha : AcB a A) (h : A ≤ B) : AcB a B := by
  obtain ⟨a1, a2, a3, a4, a5, a6, a7, a8, a9, a10⟩ := ha
  constructor <;> omega
def totS (b : Bk) (w : Int) (a : Ac) (c : Ct) : Ac := if inR w c.fi c.la = true then tog a (acc b c w) else a
theorem totG_cons (b : Bk) (w : Int) (a : Ac) (c : Ct) (l : List Ct) : totG b w a (c :: l) = totG b w (totS b w a c) l := rfl
theorem totS_AcB {b : Bk} (hb : BV b) {c : Ct} (hc : CV c) (w : Int) {a : Ac} {A : Int} (ha : AcB a A) : AcB (totS b w a c) (A + 100000000) := by
  unfold totS
  split
  · exact tog_AcB ha (acc_AcB hb hc w)
  · exact ha.mono (by omega)
def weekM (b : Bk) (f w : Int) : Ac × Int := if chk b = 0 then (match findC f b.cs with | none => (zA, 1) | some c => if inR w c.fi c.la = true then (acc b c w, 0) else (zA, 1)) else (zA, chk b)
def dueMM (b : Bk) (f w : Int) : Int × Int := if chk b = 0 then (match findC f b.cs with | none => (0, 1) | some c => if wkR w = true then (dueM b c w, 0) else (0, 1)) else (0, chk b)
def totMM (b : Bk) (w : Int) : Ac × Int := if chk b = 0 then (if wkR w = true then (totM b w, 0) else (zA, 1)) else (zA, chk b)
end Go.Ab.T
end

section
namespace Go.Ab.T
set_option maxRecDepth 8000
set_option maxHeartbeats 4000000
theorem mnl3 (a b c : Int) : mnl true (I64 a) [I64 b, I64 c] = some (I64 (max (max a b) c)) := by
  simp only [mnl, mnx_max, Option.bind_some]
theorem Settle_ok (tax : Int) (t0 : 0 ≤ tax) (t1 : tax ≤ 500) (c : Ct) (h : CV c) (w g : Int) (h0 : c.fi ≤ w) (h1 : w ≤ c.la) (g0 : 0 ≤ g) (g1 : g ≤ 100000000) : RV ft 67 [I64 tax, encC c, I64 w, I64 g] (encA (settle tax c w g)) := by
  refine RV_of ft67 rfl ?_
  simp only [c67, r67]
  have b1 := mlr_bound g0 t0 (by omega : tax ≤ 1000)
  have hn := net_bound t0 t1 g0
  have w0 : IntKind.i64.wrap (g * tax) = g * tax := wrap_i64 _ (by omega) (by omega)
  have w0' : IntKind.i64.wrap ((g * tax).tdiv 1000) = mlr g tax := by
    show IntKind.i64.wrap (mlr g tax) = mlr g tax
    exact wrap_i64 _ (by omega) (by omega)
  have w1 : IntKind.i64.wrap (g - mlr g tax) = netOf tax g := wrap_i64 _ (by omega) (by omega)
  generalize hN : netOf tax g = n at w1 hn
  have a0 := h.a0
  have a2 := h.a2
  have s1 := h.s1
  have tl := h.t1
  have l0 := h.l0
  have l1 := h.l1
  have u0 := h.n0
  have u1 := h.n1
  have o0 := h.o0
  have o1 := h.o1
  obtain ⟨p0, p1⟩ := step_get h w h0
  have w2 : IntKind.i64.wrap (w - c.fi) = w - c.fi := wrap_i64 _ (by omega) (by omega)
  have w3 : IntKind.i64.wrap ((c.st.length : Int) - 1) = (c.st.length : Int) - 1 := wrap_i64 _ (by omega) (by omega)
  have k1000 : decide ((1000 : Int) = 0) = false := rfl
  simp only [go_sem, Nat.reduceEqDiff, Nat.reduceAdd, Nat.reduceLT, Nat.reduceLeDiff, reduceIte, w0, w0', k1000, w1, w2, w3, Is_idxI p0 p1]
  refine WL_inv (α := Nat × List Ti × Int) (fun q e mm => e 5 = .ptr 0 0 0 ∧ e 8 = .ptr 1 0 0 ∧ e 9 = .ptr 2 0 0 ∧ e 10 = I64 q.2.2 ∧ e 11 = I64 q.1 ∧ c.ti.drop q.1 = q.2.1 ∧ milG n q.2.2 q.2.1 = mille c w n ∧ mm = ⟨[.live [encC c] 9, .live [.agg [I64 0, I64 0, I64 0, I64 0, I64 0, I64 0]] 6, .live [.agg [I64 g, I64 (mlr g tax), I64 n, I64 0, I64 0, I64 0]] 6], []⟩) (fun q => q.2.1.length) (0, c.ti, stepOf c w) ?_ ?_
  · simp only [go_sem, Nat.reduceEqDiff, Nat.reduceAdd, Nat.reduceLT, Nat.reduceLeDiff, reduceIte]
    ((repeat' apply And.intro) <;> first | trivial | rfl | exact ⟨_, _, rfl⟩ | omega | assumption)
  rintro ⟨k, r, v⟩ e m ⟨g5, g8, g9, g10, g11, hd, hq, rfl⟩
  dsimp only at g10 g11 hd hq
  cases r with
  | cons x r =>
    obtain ⟨hk, hd2, hlt⟩ := drop_cons hd
    rw [milG_cons] at hq
    cases hx : decide (x.fr ≤ n)
    · rw [if_neg (of_decide_eq_false hx)] at hq
      simp only [go_sem, Nat.reduceEqDiff, Nat.reduceAdd, Nat.reduceLT, Nat.reduceLeDiff, reduceIte, g5, g8, g9, g10, g11, dec_lt hlt, Ts_idx hk, hx, wrap_n1 k (by omega)]
      refine Nx_of (k + 1, r, v) (by simp) ?_
      simp only [go_sem, Nat.reduceEqDiff, Nat.reduceAdd, Nat.reduceLT, Nat.reduceLeDiff, reduceIte, g5, g8, g9, g10]
      exact ⟨trivial, trivial, trivial, trivial, trivial, hd2, hq, trivial⟩
    · rw [if_pos (of_decide_eq_true hx)] at hq
      simp only [go_sem, Nat.reduceEqDiff, Nat.reduceAdd, Nat.reduceLT, Nat.reduceLeDiff, reduceIte, g5, g8, g9, g10, g11, dec_lt hlt, Ts_idx hk, hx, wrap_n1 k (by omega)]
      refine Nx_of (k + 1, r, max v x.mi) (by simp) ?_
      simp only [go_sem, Nat.reduceEqDiff, Nat.reduceAdd, Nat.reduceLT, Nat.reduceLeDiff, reduceIte, g5, g8, g9]
      exact ⟨trivial, trivial, trivial, trivial, trivial, hd2, hq, trivial⟩
  | nil =>
  have h3 := drop_nil hd
  have hv : v = mille c w n := hq
  subst hv
  have hm := mille_bound h w n
  have b2 := mlr_bound hn.1 hm.1 hm.2
  have b3 := mlr_bound (x := max 0 (n - c.nut)) (by omega) o0 o1
  have w4 : IntKind.i64.wrap (n * mille c w n) = n * mille c w n := wrap_i64 _ (by omega) (by omega)
  have w5 : IntKind.i64.wrap ((n * mille c w n).tdiv 1000) = sh1 c w n := by
    show IntKind.i64.wrap (mlr n (mille c w n)) = _
    exact wrap_i64 _ (by omega) (by omega)
  have w6 : IntKind.i64.wrap (n - c.nut) = n - c.nut := wrap_i64 _ (by omega) (by omega)
  have w7 : IntKind.i64.wrap (max 0 (n - c.nut) * c.ov) = max 0 (n - c.nut) * c.ov := wrap_i64 _ (by omega) (by omega)
  have w8 : IntKind.i64.wrap ((max 0 (n - c.nut) * c.ov).tdiv 1000) = sh2 c n := by
    show IntKind.i64.wrap (mlr (max 0 (n - c.nut)) c.ov) = _
    exact wrap_i64 _ (by omega) (by omega)
  have hM : mnl true (I64 (sh1 c w n)) [I64 (sh2 c n), I64 c.fl] = some (I64 (most c w n)) := mnl3 _ _ _
  have s1' := sh1_bound h (w := w) hn.1
  have s2' := sh2_bound h hn.1
  have hm0 : 0 ≤ most c w n := by unfold most; omega
  have hmin : min n (most c w n) = min (most c w n) n := Int.min_comm _ _
  have w9 : IntKind.i64.wrap (n - min (most c w n) n) = n - min (most c w n) n := wrap_i64 _ (by omega) (by omega)
  have fin : encA (settle tax c w g) = .agg [I64 g, I64 (mlr g tax), I64 n, I64 (min (most c w n) n), I64 (n - min (most c w n) n), I64 (ruleOf c w n)] := by rw [← hN]; rfl
  rw [fin]
  unfold ruleOf
  cases q1 : (most c w n == sh1 c w n)
  · cases q2 : (most c w n == sh2 c n)
    · simp only [go_sem, Nat.reduceEqDiff, Nat.reduceAdd, Nat.reduceLT, Nat.reduceLeDiff, reduceIte, g5, g8, g9, g10, g11, dec_ge h3, k1000, w4, w5, w6, w7, w8, hM, hmin, w9, q1, q2]
      rfl
    · simp only [go_sem, Nat.reduceEqDiff, Nat.reduceAdd, Nat.reduceLT, Nat.reduceLeDiff, reduceIte, g5, g8, g9, g10, g11, dec_ge h3, k1000, w4, w5, w6, w7, w8, hM, hmin, w9, q1, q2]
      rfl
  · simp only [go_sem, Nat.reduceEqDiff, Nat.reduceAdd, Nat.reduceLT, Nat.reduceLeDiff, reduceIte, g5, g8, g9, g10, g11, dec_ge h3, k1000, w4, w5, w6, w7, w8, hM, hmin, w9, q1]
theorem rlen {b : Bk} (h : BV b) : b.rs.length < 1000 := by have := h.rl; omega
theorem accountOf_ok (b : Bk) (hb : BV b) (c : Ct) (h : CV c) (w : Int) (h0 : c.fi ≤ w) (h1 : w ≤ c.la) : RV ft 44 [encB b, encC c, I64 w] (encA (acc b c w)) := by
  refine RV_of ft44 rfl ?_
  simp only [c44, r44]
  have hg := gross_bound hb.rv c.film w
  simp only [go_sem, Nat.reduceEqDiff, Nat.reduceAdd, Nat.reduceLT, Nat.reduceLeDiff, reduceIte, WB70, WVH_eq (grossOf_ok b.rs c.film w (rlen hb) hb.rv), true_and, WB62, WVH_eq (account_ok b.tax hb.x0 hb.x1 c h w _ h0 h1 hg.1 hg.2)]
  rfl
theorem accountR_ok (b : Bk) (hb : BV b) (c : Ct) (h : CV c) (w : Int) (h0 : c.fi ≤ w) (h1 : w ≤ c.la) : RV ft 64 [encB b, encC c, I64 w] (encA (acc b c w)) := by
  refine RV_of ft64 rfl ?_
  simp only [c64, r64]
  have hg := gross_bound hb.rv c.film w
  simp only [go_sem, Nat.reduceEqDiff, Nat.reduceAdd, Nat.reduceLT, Nat.reduceLeDiff, reduceIte, WB95, WVH_eq (grossR_ok b c.film w (rlen hb) hb.rv), true_and, WB67, WVH_eq (Settle_ok b.tax hb.x0 hb.x1 c h w _ h0 h1 hg.1 hg.2)]
  rfl
theorem fldSh (a : Ac) : fldAt (encA a) 3 none = some (I64 a.sh) := rfl
theorem due_ok (b : Bk) (hb : BV b) (c : Ct) (h : CV c) (w : Int) (hw0 : 0 ≤ w) (hw1 : w ≤ 99) : RV ft 48 [encB b, encC c, I64 w] (I64 (dueM b c w)) := by
  refine RV_of ft48 rfl ?_
  simp only [c48, r48]
  have a0 := h.a0
  have a1 := h.a1
  have a2 := h.a2
  have gu0 := h.g0
  have gu1 := h.g1
  simp only [go_sem, Nat.reduceEqDiff, Nat.reduceAdd, Nat.reduceLT, Nat.reduceLeDiff, reduceIte]
  refine WL_inv (α := Nat) (fun q e mm => e 2 = I64 w ∧ e 3 = .ptr 0 0 0 ∧ e 4 = .ptr 1 0 0 ∧ e 7 = I64 (shSum b c q) ∧ e 8 = I64 (c.fi + q) ∧ q ≤ (min w c.la - c.fi + 1).toNat ∧ mm = ⟨[.live [encB b] 3, .live [encC c] 9], []⟩) (fun q => 200 - q) 0 ?_ ?_
  · simp only [go_sem, Nat.reduceEqDiff, Nat.reduceAdd, Nat.reduceLT, Nat.reduceLeDiff, reduceIte]
    refine ⟨trivial, trivial, trivial, rfl, ?_, by omega, trivial⟩
    congr 1; omega
  rintro q e m ⟨g2, g3, g4, g7, g8, hq, rfl⟩
  have hs := shSum_bound hb h q
  have hqb : (q : Int) ≤ 100 := by omega
  by_cases hc : c.fi + q ≤ min w c.la
  · have c1 : decide (c.fi + (q : Int) ≤ min w c.la) = true := decide_eq_true hc
    have hA := acc_bound hb h (c.fi + q)
    have w1 : IntKind.i64.wrap (shSum b c q + (acc b c (c.fi + q)).sh) = shSum b c (q + 1) := wrap_i64 _ (by omega) (by omega)
    have w2 : IntKind.i64.wrap (c.fi + (q : Int) + 1) = c.fi + ((q + 1 : Nat) : Int) := by rw [wrap_i64 _ (by omega) (by omega)]; omega
    simp only [go_sem, Nat.reduceEqDiff, Nat.reduceAdd, Nat.reduceLT, Nat.reduceLeDiff, reduceIte, g2, g3, g4, g7, g8, c1, WB44, WVH_eq (accountOf_ok b hb c h (c.fi + q) (by omega) (by omega)), true_and, fldSh, w1, w2]
    refine Nx_of (q + 1) (by simp; omega) ?_
    simp only [go_sem, Nat.reduceEqDiff, Nat.reduceAdd, Nat.reduceLT, Nat.reduceLeDiff, reduceIte, g2, g3, g4]
    exact ⟨trivial, trivial, trivial, trivial, trivial, by omega, trivial⟩
  · have c1 : decide (c.fi + (q : Int) ≤ min w c.la) = false := decide_eq_false hc
    have hq' : q = (min w c.la - c.fi + 1).toNat := by omega
    unfold dueM
    cases c2 : decide (w < c.la)
    · have hn := of_decide_eq_false c2
      have c3 : decide (c.la ≤ w) = true := decide_eq_true (by omega)
      have : q = (c.la - c.fi + 1).toNat := by omega
      rw [if_neg hn, ← this]
      simp only [go_sem, Nat.reduceEqDiff, Nat.reduceAdd, Nat.reduceLT, Nat.reduceLeDiff, reduceIte, g2, g3, g4, g7, g8, c1, c2, c3]
    · have hn := of_decide_eq_true c2
      have c3 : decide (c.la ≤ w) = false := decide_eq_false (by omega)
      have : q = (w - c.fi + 1).toNat := by omega
      rw [if_pos hn, ← this]
      simp only [go_sem, Nat.reduceEqDiff, Nat.reduceAdd, Nat.reduceLT, Nat.reduceLeDiff, reduceIte, g2, g3, g4, g7, g8, c1, c2, c3]
theorem dueR_ok (b : Bk) (hb : BV b) (c : Ct) (h : CV c) (w : Int) (hw0 : 0 ≤ w) (hw1 : w ≤ 99) : RV ft 65 [encB b, encC c, I64 w] (I64 (dueM b c w)) := by
  refine RV_of ft65 rfl ?_
  simp only [c65, r65]
  have a0 := h.a0
  have a1 := h.a1
  have a2 := h.a2
  have gu0 := h.g0
  have gu1 := h.g1
  simp only [go_sem, Nat.reduceEqDiff, Nat.reduceAdd, Nat.reduceLT, Nat.reduceLeDiff, reduceIte]
  refine WL_inv (α := Nat) (fun q e mm => e 2 = I64 w ∧ e 3 = .ptr 0 0 0 ∧ e 4 = .ptr 1 0 0 ∧ e 7 = I64 (shSum b c q) ∧ e 8 = I64 (c.fi + q) ∧ q ≤ (min w c.la - c.fi + 1).toNat ∧ mm = ⟨[.live [encB b] 3, .live [encC c] 9], []⟩) (fun q => 200 - q) 0 ?_ ?_
  · simp only [go_sem, Nat.reduceEqDiff, Nat.reduceAdd, Nat.reduceLT, Nat.reduceLeDiff, reduceIte]
    refine ⟨trivial, trivial, trivial, rfl, ?_, by omega, trivial⟩
    congr 1; omega
  rintro q e m ⟨g2, g3, g4, g7, g8, hq, rfl⟩
  have hs := shSum_bound hb h q
  have hqb : (q : Int) ≤ 100 := by omega
  by_cases hc : c.fi + q ≤ min w c.la
  · have c1 : decide (c.fi + (q : Int) ≤ min w c.la) = true := decide_eq_true hc
    have hA := acc_bound hb h (c.fi + q)
    have w1 : IntKind.i64.wrap (shSum b c q + (acc b c (c.fi + q)).sh) = shSum b c (q + 1) := wrap_i64 _ (by omega) (by omega)
    have w2 : IntKind.i64.wrap (c.fi + (q : Int) + 1) = c.fi + ((q + 1 : Nat) : Int) := by rw [wrap_i64 _ (by omega) (by omega)]; omega
    simp only [go_sem, Nat.reduceEqDiff, Nat.reduceAdd, Nat.reduceLT, Nat.reduceLeDiff, reduceIte, g2, g3, g4, g7, g8, c1, WB64, WVH_eq (accountR_ok b hb c h (c.fi + q) (by omega) (by omega)), true_and, fldSh, w1, w2]
    refine Nx_of (q + 1) (by simp; omega) ?_
    simp only [go_sem, Nat.reduceEqDiff, Nat.reduceAdd, Nat.reduceLT, Nat.reduceLeDiff, reduceIte, g2, g3, g4]
    exact ⟨trivial, trivial, trivial, trivial, trivial, by omega, trivial⟩
  · have c1 : decide (c.fi + (q : Int) ≤ min w c.la) = false := decide_eq_false hc
    have hq' : q = (min w c.la - c.fi + 1).toNat := by omega
    unfold dueM
    cases c2 : decide (w < c.la)
    · have hn := of_decide_eq_false c2
      have c3 : decide (c.la ≤ w) = true := decide_eq_true (by omega)
      have : q = (c.la - c.fi + 1).toNat := by omega
      rw [if_neg hn, ← this]
      simp only [go_sem, Nat.reduceEqDiff, Nat.reduceAdd, Nat.reduceLT, Nat.reduceLeDiff, reduceIte, g2, g3, g4, g7, g8, c1, c2, c3]
    · have hn := of_decide_eq_true c2
      have c3 : decide (c.la ≤ w) = false := decide_eq_false (by omega)
      have : q = (w - c.fi + 1).toNat := by omega
      rw [if_pos hn, ← this]
      simp only [go_sem, Nat.reduceEqDiff, Nat.reduceAdd, Nat.reduceLT, Nat.reduceLeDiff, reduceIte, g2, g3, g4, g7, g8, c1, c2, c3]
theorem ne0 {n : Int} (h : n ≠ 0) : (n != 0) = true := by simpa using h
theorem eq0 {n : Int} (h : n = 0) : (n != 0) = false := by simp [h]
theorem contractIn_ok (b : Bk) (h : NF b) (f w : Int) : RV ft 45 [encB b, I64 f, I64 w] (if chk b = 0 then (match findC f b.cs with | none => .tup [encC zC, I64 1] | some c => if inR w c.fi c.la = true then .tup [encC c, I64 0] else .tup [encC zC, I64 1]) else .tup [encC zC, I64 (chk b)]) := by
  refine RV_of ft45 rfl ?_
  simp only [c45, r45]
  by_cases h0 : chk b = 0
  · rw [if_pos h0]
    have hf := find_ok b.cs f h.c
    have hC := Check_ok b h
    rw [h0] at hC
    cases hs : findC f b.cs with
    | none =>
      rw [hs] at hf
      simp only [go_sem, Nat.reduceEqDiff, Nat.reduceAdd, Nat.reduceLT, Nat.reduceLeDiff, reduceIte, WB31, WVH_eq hC, true_and, show ((0 : Int) != 0) = false from rfl, WB46, WVH_eq hf, Option.getD, Option.isSome]
      rfl
    | some c =>
      rw [hs] at hf
      dsimp only
      cases hi : inR w c.fi c.la
      · simp only [go_sem, Nat.reduceEqDiff, Nat.reduceAdd, Nat.reduceLT, Nat.reduceLeDiff, reduceIte, WB31, WVH_eq hC, true_and, show ((0 : Int) != 0) = false from rfl, WB46, WVH_eq hf, Option.getD, Option.isSome, WB42, WVH_eq (hasWeek_ok _ _), hi]
        rfl
      · simp only [go_sem, Nat.reduceEqDiff, Nat.reduceAdd, Nat.reduceLT, Nat.reduceLeDiff, reduceIte, WB31, WVH_eq hC, true_and, show ((0 : Int) != 0) = false from rfl, WB46, WVH_eq hf, Option.getD, Option.isSome, WB42, WVH_eq (hasWeek_ok _ _), hi]
  · rw [if_neg h0]
    simp only [go_sem, Nat.reduceEqDiff, Nat.reduceAdd, Nat.reduceLT, Nat.reduceLeDiff, reduceIte, WB31, WVH_eq (Check_ok b h), true_and, ne0 h0]
    rfl
theorem checkWeek_ok (b : Bk) (h : NF b) (w : Int) : RV ft 41 [encB b, I64 w] (I64 (if chk b = 0 then (if wkR w = true then 0 else 1) else chk b)) := by
  refine RV_of ft41 rfl ?_
  simp only [c41, r41]
  by_cases h0 : chk b = 0
  · rw [if_pos h0]
    have hC := Check_ok b h
    rw [h0] at hC
    cases hi : wkR w
    · simp only [go_sem, Nat.reduceEqDiff, Nat.reduceAdd, Nat.reduceLT, Nat.reduceLeDiff, reduceIte, WB31, WVH_eq hC, true_and, show ((0 : Int) != 0) = false from rfl, WB47, WVH_eq (isWeek_ok _), hi]
      rfl
    · simp only [go_sem, Nat.reduceEqDiff, Nat.reduceAdd, Nat.reduceLT, Nat.reduceLeDiff, reduceIte, WB31, WVH_eq hC, true_and, show ((0 : Int) != 0) = false from rfl, WB47, WVH_eq (isWeek_ok _), hi]
  · rw [if_neg h0]
    simp only [go_sem, Nat.reduceEqDiff, Nat.reduceAdd, Nat.reduceLT, Nat.reduceLeDiff, reduceIte, WB31, WVH_eq (Check_ok b h), true_and, ne0 h0]
theorem Week_ok (b : Bk) (h : NF b) (f w : Int) : RV ft 19 [encB b, I64 f, I64 w] (.tup [encA (weekM b f w).1, I64 (weekM b f w).2]) := by
  refine RV_of ft19 rfl ?_
  simp only [c19, r19]
  have hI := contractIn_ok b h f w
  unfold weekM
  by_cases h0 : chk b = 0
  · rw [if_pos h0] at hI ⊢
    have hb := chk_BV h0
    cases hs : findC f b.cs with
    | none =>
      rw [hs] at hI
      simp only [go_sem, Nat.reduceEqDiff, Nat.reduceAdd, Nat.reduceLT, Nat.reduceLeDiff, reduceIte, WB45, WVH_eq hI, true_and, show ((1 : Int) != 0) = true from rfl]
      rfl
    | some c =>
      rw [hs] at hI
      have hc := hb.cv c (findC_mem hs).1
      dsimp only at hI ⊢
      cases hi : inR w c.fi c.la
      · rw [hi] at hI
        have hI : RV ft 45 [encB b, I64 f, I64 w] (.tup [encC zC, I64 1]) := hI
        simp only [go_sem, Nat.reduceEqDiff, Nat.reduceAdd, Nat.reduceLT, Nat.reduceLeDiff, reduceIte, WB45, WVH_eq hI, true_and, show ((1 : Int) != 0) = true from rfl]
        rfl
      · rw [hi] at hI
        have hI : RV ft 45 [encB b, I64 f, I64 w] (.tup [encC c, I64 0]) := hI
        obtain ⟨i0, i1⟩ := inR_iff.1 hi
        simp only [go_sem, Nat.reduceEqDiff, Nat.reduceAdd, Nat.reduceLT, Nat.reduceLeDiff, reduceIte, WB45, WVH_eq hI, true_and, show ((0 : Int) != 0) = false from rfl, WB44, WVH_eq (accountOf_ok b hb c hc w i0 i1)]
  · rw [if_neg h0] at hI ⊢
    simp only [go_sem, Nat.reduceEqDiff, Nat.reduceAdd, Nat.reduceLT, Nat.reduceLeDiff, reduceIte, WB45, WVH_eq hI, true_and, ne0 h0]
    rfl
theorem WeekR_ok (b : Bk) (h : NF b) (f w : Int) : RV ft 32 [encB b, I64 f, I64 w] (.tup [encA (weekM b f w).1, I64 (weekM b f w).2]) := by
  refine RV_of ft32 rfl ?_
  simp only [c32, r32]
  have hf := Contract_ok b f h.c
  unfold weekM
  by_cases h0 : chk b = 0
  · rw [if_pos h0]
    have hb := chk_BV h0
    have hC := CheckR_ok b h
    rw [h0] at hC
    cases hs : findC f b.cs with
    | none =>
      rw [hs] at hf
      simp only [go_sem, Nat.reduceEqDiff, Nat.reduceAdd, Nat.reduceLT, Nat.reduceLeDiff, reduceIte, WB15, WVH_eq hC, true_and, show ((0 : Int) != 0) = false from rfl, WB21, WVH_eq hf, Option.getD, Option.isSome]
      rfl
    | some c =>
      rw [hs] at hf
      have hc := hb.cv c (findC_mem hs).1
      dsimp only
      cases hi : inR w c.fi c.la
      · simp only [go_sem, Nat.reduceEqDiff, Nat.reduceAdd, Nat.reduceLT, Nat.reduceLeDiff, reduceIte, WB15, WVH_eq hC, true_and, show ((0 : Int) != 0) = false from rfl, WB21, WVH_eq hf, Option.getD, Option.isSome, WB55, WVH_eq (within_ok _ _ _), hi]
        rfl
      · obtain ⟨i0, i1⟩ := inR_iff.1 hi
        simp only [go_sem, Nat.reduceEqDiff, Nat.reduceAdd, Nat.reduceLT, Nat.reduceLeDiff, reduceIte, WB15, WVH_eq hC, true_and, show ((0 : Int) != 0) = false from rfl, WB21, WVH_eq hf, Option.getD, Option.isSome, WB55, WVH_eq (within_ok _ _ _), hi, WB64, WVH_eq (accountR_ok b hb c hc w i0 i1)]
  · rw [if_neg h0]
    simp only [go_sem, Nat.reduceEqDiff, Nat.reduceAdd, Nat.reduceLT, Nat.reduceLeDiff, reduceIte, WB15, WVH_eq (CheckR_ok b h), true_and, ne0 h0]
    rfl
theorem Due_ok (b : Bk) (h : NF b) (f w : Int) : RV ft 23 [encB b, I64 f, I64 w] (.tup [I64 (dueMM b f w).1, I64 (dueMM b f w).2]) := by
  refine RV_of ft23 rfl ?_
  simp only [c23, r23]
  have hf := find_ok b.cs f h.c
  unfold dueMM
  by_cases h0 : chk b = 0
  · rw [if_pos h0]
    have hb := chk_BV h0
    have hC := Check_ok b h
    rw [h0] at hC
    cases hs : findC f b.cs with
    | none =>
      rw [hs] at hf
      simp only [go_sem, Nat.reduceEqDiff, Nat.reduceAdd, Nat.reduceLT, Nat.reduceLeDiff, reduceIte, WB31, WVH_eq hC, true_and, show ((0 : Int) != 0) = false from rfl, WB46, WVH_eq hf, Option.getD, Option.isSome]
    | some c =>
      rw [hs] at hf
      have hc := hb.cv c (findC_mem hs).1
      dsimp only
      cases hi : wkR w
      · simp only [go_sem, Nat.reduceEqDiff, Nat.reduceAdd, Nat.reduceLT, Nat.reduceLeDiff, reduceIte, WB31, WVH_eq hC, true_and, show ((0 : Int) != 0) = false from rfl, WB46, WVH_eq hf, Option.getD, Option.isSome, WB47, WVH_eq (isWeek_ok _), hi]
        rfl
      · obtain ⟨i0, i1⟩ := inR_iff.1 hi
        simp only [go_sem, Nat.reduceEqDiff, Nat.reduceAdd, Nat.reduceLT, Nat.reduceLeDiff, reduceIte, WB31, WVH_eq hC, true_and, show ((0 : Int) != 0) = false from rfl, WB46, WVH_eq hf, Option.getD, Option.isSome, WB47, WVH_eq (isWeek_ok _), hi, WB48, WVH_eq (due_ok b hb c hc w i0 i1)]
  · rw [if_neg h0]
    simp only [go_sem, Nat.reduceEqDiff, Nat.reduceAdd, Nat.reduceLT, Nat.reduceLeDiff, reduceIte, WB31, WVH_eq (Check_ok b h), true_and, ne0 h0]
theorem DueR_ok (b : Bk) (h : NF b) (f w : Int) : RV ft 33 [encB b, I64 f, I64 w] (.tup [I64 (dueMM b f w).1, I64 (dueMM b f w).2]) := by
  refine RV_of ft33 rfl ?_
  simp only [c33, r33]
  have hf := Contract_ok b f h.c
  have wq : inR w 0 99 = wkR w := rfl
  unfold dueMM
  by_cases h0 : chk b = 0
  · rw [if_pos h0]
    have hb := chk_BV h0
    have hC := CheckR_ok b h
    rw [h0] at hC
    cases hs : findC f b.cs with
    | none =>
      rw [hs] at hf
      simp only [go_sem, Nat.reduceEqDiff, Nat.reduceAdd, Nat.reduceLT, Nat.reduceLeDiff, reduceIte, WB15, WVH_eq hC, true_and, show ((0 : Int) != 0) = false from rfl, WB21, WVH_eq hf, Option.getD, Option.isSome]
    | some c =>
      rw [hs] at hf
      have hc := hb.cv c (findC_mem hs).1
      dsimp only
      cases hi : wkR w
      · simp only [go_sem, Nat.reduceEqDiff, Nat.reduceAdd, Nat.reduceLT, Nat.reduceLeDiff, reduceIte, WB15, WVH_eq hC, true_and, show ((0 : Int) != 0) = false from rfl, WB21, WVH_eq hf, Option.getD, Option.isSome, WB55, WVH_eq (within_ok _ _ _), wq, hi]
        rfl
      · obtain ⟨i0, i1⟩ := inR_iff.1 hi
        simp only [go_sem, Nat.reduceEqDiff, Nat.reduceAdd, Nat.reduceLT, Nat.reduceLeDiff, reduceIte, WB15, WVH_eq hC, true_and, show ((0 : Int) != 0) = false from rfl, WB21, WVH_eq hf, Option.getD, Option.isSome, WB55, WVH_eq (within_ok _ _ _), wq, hi, WB65, WVH_eq (dueR_ok b hb c hc w i0 i1)]
  · rw [if_neg h0]
    simp only [go_sem, Nat.reduceEqDiff, Nat.reduceAdd, Nat.reduceLT, Nat.reduceLeDiff, reduceIte, WB15, WVH_eq (CheckR_ok b h), true_and, ne0 h0]
theorem aW {x y : Int} {B : Int} (h0 : 0 ≤ x) (h1 : x ≤ B) (h2 : 0 ≤ y) (h3 : y ≤ B) (hB : B ≤ 1000000000000) : IntKind.i64.wrap (x + y) = x + y := wrap_i64 _ (by omega) (by omega)
theorem together_ok (a c : Ac) {B : Int} (ha : AcB a B) (hc : AcB c B) (hB : B ≤ 1000000000000) : RV ft 43 [encA a, encA c] (encA (tog a c)) := by
  refine RV_of ft43 rfl ?_
  simp only [c43, r43]
  simp only [go_sem, Nat.reduceEqDiff, Nat.reduceAdd, Nat.reduceLT, Nat.reduceLeDiff, reduceIte, aW ha.g0 ha.g1 hc.g0 hc.g1 hB, aW ha.t0 ha.t1 hc.t0 hc.t1 hB, aW ha.n0 ha.n1 hc.n0 hc.n1 hB, aW ha.s0 ha.s1 hc.s0 hc.s1 hB, aW ha.h0 ha.h1 hc.h0 hc.h1 hB]
  rfl
theorem wA6 (a : Ac) (x1 x2 x3 x4 x5 x6 : AV) : writeCells (encA a) 0 [x1, x2, x3, x4, x5, x6] = some (.agg [x1, x2, x3, x4, x5, x6]) := rfl
theorem wA1 (a : Ac) (x : AV) : writeCells (encA a) 0 [x] = some (.agg [x, I64 a.tx, I64 a.net, I64 a.sh, I64 a.ho, I64 a.ru]) := rfl
theorem zA_agg : AV.agg [I64 0, I64 0, I64 0, I64 0, I64 0, I64 0] = encA zA := rfl
theorem Total_ok (b : Bk) (h : NF b) (w : Int) : RV ft 17 [encB b, I64 w] (.tup [encA (totMM b w).1, I64 (totMM b w).2]) := by
  refine RV_of ft17 rfl ?_
  simp only [c17, r17]
  have hW := checkWeek_ok b h w
  unfold totMM
  by_cases h0 : chk b = 0
  case neg =>
    rw [if_neg h0] at hW ⊢
    simp only [go_sem, Nat.reduceEqDiff, Nat.reduceAdd, Nat.reduceLT, Nat.reduceLeDiff, reduceIte, WB41, WVH_eq hW, true_and, ne0 h0]
    rfl
  rw [if_pos h0] at hW ⊢
  have hb := chk_BV h0
  cases hi : wkR w
  case false =>
    rw [hi] at hW
    have hW : RV ft 41 [encB b, I64 w] (I64 1) := hW
    simp only [go_sem, Nat.reduceEqDiff, Nat.reduceAdd, Nat.reduceLT, Nat.reduceLeDiff, reduceIte, WB41, WVH_eq hW, true_and, show ((1 : Int) != 0) = true from rfl]
    rfl
  rw [hi] at hW
  have hW : RV ft 41 [encB b, I64 w] (I64 0) := hW
  rw [if_pos rfl]
  simp only [go_sem, Nat.reduceEqDiff, Nat.reduceAdd, Nat.reduceLT, Nat.reduceLeDiff, reduceIte, WB41, WVH_eq hW, true_and, show ((0 : Int) != 0) = false from rfl]
  refine WL_inv (α := Nat × List Ct × Ac) (fun q e mm => e 1 = I64 w ∧ e 2 = .ptr 0 0 0 ∧ e 4 = .ptr 1 0 0 ∧ e 7 = .ptr 2 0 0 ∧ e 18 = encCs b.cs ∧ e 19 = I64 b.cs.length ∧ e 20 = I64 q.1 ∧ b.cs.drop q.1 = q.2.1 ∧ totG b w q.2.2 q.2.1 = totM b w ∧ AcB q.2.2 (q.1 * 100000000) ∧ ∃ bl tk, mm = ⟨.live [encB b] 3 :: .live [.agg [I64 0, I64 0, I64 0, I64 0, I64 0, I64 0]] 6 :: .live [encA q.2.2] 6 :: bl, tk⟩) (fun q => q.2.1.length) (0, b.cs, zA) ?_ ?_
  · simp only [go_sem, Nat.reduceEqDiff, Nat.reduceAdd, Nat.reduceLT, Nat.reduceLeDiff, reduceIte]
    exact ⟨trivial, trivial, trivial, trivial, trivial, trivial, rfl, trivial, rfl, zA_AcB, _, _, rfl⟩
  rintro ⟨k, r, a⟩ e m ⟨g1, g2, g4, g7, g18, g19, g20, hd, hq, hA, bl, tk, rfl⟩
  dsimp only at g20 hd hq hA
  cases r with
  | nil =>
    have h3 := drop_nil hd
    have hq : a = totM b w := hq
    simp only [go_sem, Nat.reduceEqDiff, Nat.reduceAdd, Nat.reduceLT, Nat.reduceLeDiff, reduceIte, g1, g2, g4, g7, g18, g19, g20, dec_ge h3]
    rw [hq]
  | cons x r =>
    obtain ⟨hk, hd2, hlt⟩ := drop_cons hd
    have hc := hb.cv x (List.mem_of_getElem? hk)
    have cl := hb.cl
    rw [totG_cons] at hq
    have hA2 := totS_AcB hb hc w hA
    cases hx : inR w x.fi x.la
    · have e1 : totS b w a x = a := by unfold totS; rw [hx]; rfl
      rw [e1] at hq hA2
      simp only [go_sem, Nat.reduceEqDiff, Nat.reduceAdd, Nat.reduceLT, Nat.reduceLeDiff, reduceIte, g1, g2, g4, g7, g18, g19, g20, dec_lt hlt, Cs_idx hk, WB42, WVH_eq (hasWeek_ok _ _), true_and, hx, wrap_n1 k (by omega)]
      refine Nx_of (k + 1, r, a) (by simp) ?_
      simp only [go_sem, Nat.reduceEqDiff, Nat.reduceAdd, Nat.reduceLT, Nat.reduceLeDiff, reduceIte, g1, g2, g4, g7, g18, g19]
      exact ⟨trivial, trivial, trivial, trivial, trivial, trivial, trivial, hd2, hq, hA2.mono (by omega), _, _, rfl⟩
    · have e1 : totS b w a x = tog a (acc b x w) := by unfold totS; rw [hx]; rfl
      rw [e1] at hq hA2
      obtain ⟨i0, i1⟩ := inR_iff.1 hx
      have ht := together_ok a (acc b x w) (B := 1000000000) (hA.mono (by omega)) ((acc_AcB hb hc w).mono (by omega)) (by omega)
      simp only [go_sem, Nat.reduceEqDiff, Nat.reduceAdd, Nat.reduceLT, Nat.reduceLeDiff, reduceIte, g1, g2, g4, g7, g18, g19, g20, dec_lt hlt, Cs_idx hk, WB42, WVH_eq (hasWeek_ok _ _), true_and, hx, WB44, WVH_eq (accountOf_ok b hb x hc w i0 i1), WB43, WVH_eq ht, wA6, wrap_n1 k (by omega)]
      refine Nx_of (k + 1, r, tog a (acc b x w)) (by simp) ?_
      simp only [go_sem, Nat.reduceEqDiff, Nat.reduceAdd, Nat.reduceLT, Nat.reduceLeDiff, reduceIte, g1, g2, g4, g7, g18, g19]
      exact ⟨trivial, trivial, trivial, trivial, trivial, trivial, trivial, hd2, hq, hA2.mono (by omega), _, _, rfl⟩
theorem TotalR_ok (b : Bk) (h : NF b) (w : Int) : RV ft 34 [encB b, I64 w] (.tup [encA (totMM b w).1, I64 (totMM b w).2]) := by
  refine RV_of ft34 rfl ?_
  simp only [c34, r34]
  have wq : inR w 0 99 = wkR w := rfl
  unfold totMM
  by_cases h0 : chk b = 0
  case neg =>
    rw [if_neg h0]
    simp only [go_sem, Nat.reduceEqDiff, Nat.reduceAdd, Nat.reduceLT, Nat.reduceLeDiff, reduceIte, WB15, WVH_eq (CheckR_ok b h), true_and, ne0 h0]
    rfl
  rw [if_pos h0]
  have hb := chk_BV h0
  have hC := CheckR_ok b h
  rw [h0] at hC
  cases hi : wkR w
  case false =>
    simp only [go_sem, Nat.reduceEqDiff, Nat.reduceAdd, Nat.reduceLT, Nat.reduceLeDiff, reduceIte, WB15, WVH_eq hC, true_and, show ((0 : Int) != 0) = false from rfl, WB55, WVH_eq (within_ok _ _ _), wq, hi]
    rfl
  rw [if_pos rfl]
  simp only [go_sem, Nat.reduceEqDiff, Nat.reduceAdd, Nat.reduceLT, Nat.reduceLeDiff, reduceIte, WB15, WVH_eq hC, true_and, show ((0 : Int) != 0) = false from rfl, WB55, WVH_eq (within_ok _ _ _), wq, hi]
  refine WL_inv (α := Nat × List Ct × Ac) (fun q e mm => e 1 = I64 w ∧ e 2 = .ptr 0 0 0 ∧ e 4 = .ptr 1 0 0 ∧ e 7 = .ptr 2 0 0 ∧ e 8 = I64 q.1 ∧ b.cs.drop q.1 = q.2.1 ∧ totG b w q.2.2 q.2.1 = totM b w ∧ q.2.2.ru = 0 ∧ AcB q.2.2 (q.1 * 100000000) ∧ ∃ bl tk, mm = ⟨.live [encB b] 3 :: .live [.agg [I64 0, I64 0, I64 0, I64 0, I64 0, I64 0]] 6 :: .live [encA q.2.2] 6 :: bl, tk⟩) (fun q => q.2.1.length) (0, b.cs, zA) ?_ ?_
  · simp only [go_sem, Nat.reduceEqDiff, Nat.reduceAdd, Nat.reduceLT, Nat.reduceLeDiff, reduceIte]
    exact ⟨trivial, trivial, trivial, trivial, rfl, trivial, rfl, rfl, zA_AcB, _, _, rfl⟩
  rintro ⟨k, r, a⟩ e m ⟨g1, g2, g4, g7, g8, hd, hq, hru, hA, bl, tk, rfl⟩
  dsimp only at g8 hd hq hA hru
  cases r with
  | nil =>
    have h3 := drop_nil hd
    have hq : a = totM b w := hq
    simp only [go_sem, Nat.reduceEqDiff, Nat.reduceAdd, Nat.reduceLT, Nat.reduceLeDiff, reduceIte, g1, g2, g4, g7, g8, dec_ge h3]
    rw [hq]
  | cons x r =>
    obtain ⟨hk, hd2, hlt⟩ := drop_cons hd
    have hc := hb.cv x (List.mem_of_getElem? hk)
    have cl := hb.cl
    rw [totG_cons] at hq
    have hA2 := totS_AcB hb hc w hA
    cases hx : inR w x.fi x.la
    · have e1 : totS b w a x = a := by unfold totS; rw [hx]; rfl
      rw [e1] at hq hA2
      simp only [go_sem, Nat.reduceEqDiff, Nat.reduceAdd, Nat.reduceLT, Nat.reduceLeDiff, reduceIte, g1, g2, g4, g7, g8, dec_lt hlt, Cs_idx hk, WB55, WVH_eq (within_ok _ _ _), true_and, hx, wrap_n1 k (by omega)]
      refine Nx_of (k + 1, r, a) (by simp) ?_
      simp only [go_sem, Nat.reduceEqDiff, Nat.reduceAdd, Nat.reduceLT, Nat.reduceLeDiff, reduceIte, g1, g2, g4, g7]
      exact ⟨trivial, trivial, trivial, trivial, trivial, hd2, hq, hru, hA2.mono (by omega), _, _, rfl⟩
    · have e1 : totS b w a x = tog a (acc b x w) := by unfold totS; rw [hx]; rfl
      rw [e1] at hq hA2
      obtain ⟨i0, i1⟩ := inR_iff.1 hx
      have hB := (acc_AcB hb hc w).mono (show (100000000 : Int) ≤ 1000000000 by omega)
      have hA' := hA.mono (show (k : Int) * 100000000 ≤ 1000000000 by omega)
      generalize hac : acc b x w = c at hq hA2 hB
      have hacR := accountR_ok b hb x hc w i0 i1
      rw [hac] at hacR
      simp only [go_sem, Nat.reduceEqDiff, Nat.reduceAdd, Nat.reduceLT, Nat.reduceLeDiff, reduceIte, g1, g2, g4, g7, g8, dec_lt hlt, Cs_idx hk, WB55, WVH_eq (within_ok _ _ _), true_and, hx, WB64, WVH_eq hacR, wA1, hru, aW hA'.g0 hA'.g1 hB.g0 hB.g1 (by omega), aW hA'.t0 hA'.t1 hB.t0 hB.t1 (by omega), aW hA'.n0 hA'.n1 hB.n0 hB.n1 (by omega), aW hA'.s0 hA'.s1 hB.s0 hB.s1 (by omega), aW hA'.h0 hA'.h1 hB.h0 hB.h1 (by omega), wrap_n1 k (by omega)]
      refine Nx_of (k + 1, r, tog a c) (by simp) ?_
      simp only [go_sem, Nat.reduceEqDiff, Nat.reduceAdd, Nat.reduceLT, Nat.reduceLeDiff, reduceIte, g1, g2, g4, g7]
      exact ⟨trivial, trivial, trivial, trivial, trivial, hd2, hq, rfl, hA2.mono (by omega), _, _, rfl⟩
end Go.Ab.T
end

section
namespace Go.Ab.T
set_option maxRecDepth 8000
set_option maxHeartbeats 4000000
/-- The least number for which something is so, if it is so for all above it: by halves. -/
def bs (p : Nat → Bool) : Nat → Nat → Nat → Nat
  | 0, i, _ => i
  | n + 1, i, j => if i < j then (if p ((i + j) / 2) = true then bs p n i ((i + j) / 2) else bs p n ((i + j) / 2 + 1) j) else i
theorem bs_end (p : Nat → Bool) (n i j : Nat) (h : ¬i < j) : bs p n i j = i := by
  cases n with
  | zero => rfl
  | succ n => exact if_neg h
theorem bs_step (p : Nat → Bool) (n i j : Nat) (h : i < j) : bs p (n + 1) i j = if p ((i + j) / 2) = true then bs p n i ((i + j) / 2) else bs p n ((i + j) / 2 + 1) j := if_pos h
theorem bs_le (p : Nat → Bool) : ∀ (n i j : Nat), i ≤ j → bs p n i j ≤ j
  | 0, i, j, h => h
  | n + 1, i, j, h => by
    unfold bs
    split
    · split
      · have := bs_le p n i ((i + j) / 2) (by omega); omega
      · exact bs_le p n ((i + j) / 2 + 1) j (by omega)
    · exact h
theorem half64 (i j : Nat) (h : i + j < 100000000) : IntKind.i64.wrap ((i : Int) + (j : Int)) = ((i + j : Nat) : Int) ∧ IntKind.u64.wrap ((i + j : Nat) : Int) = ((i + j : Nat) : Int) ∧ Int.fdiv ((i + j : Nat) : Int) (2 ^ min (1 : Int).toNat 64) = (((i + j) / 2 : Nat) : Int) ∧ IntKind.i64.wrap (((i + j) / 2 : Nat) : Int) = (((i + j) / 2 : Nat) : Int) := by
  refine ⟨?_, wrap_u64 _ (by omega) (by omega), ?_, wrap_i64 _ (by omega) (by omega)⟩
  · rw [wrap_i64 _ (by omega) (by omega)]; omega
  · rw [show min (1 : Int).toNat 64 = 1 from rfl, shr_nat, Nat.shiftRight_eq_div_pow]
theorem Search_ok (N : Nat) (hN : N < 40000000) (f : AV) (p : Nat → Bool) (hf : ∀ n : Nat, n < N → ∀ (e : Nat → AV) (m : Mem) (K : AV → St → Prop), K (.bool (p n)) ⟨e, m⟩ → @WAH ft f [I64 (n : Int)] ⟨e, m⟩ ⟨K⟩) : RV ft 60 [I64 (N : Int), f] (I64 ((bs p N 0 N : Nat) : Int)) := by
  refine RV_of ft60 rfl ?_
  simp only [c60, r60]
  simp only [go_sem, Nat.reduceEqDiff, Nat.reduceAdd, Nat.reduceLT, Nat.reduceLeDiff, reduceIte]
  refine WL_inv (α := Nat × Nat × Nat) (fun q e mm => e 1 = f ∧ e 5 = I64 q.2.1 ∧ e 6 = I64 q.2.2 ∧ q.2.2 ≤ N ∧ q.2.2 - q.2.1 ≤ q.1 ∧ bs p q.1 q.2.1 q.2.2 = bs p N 0 N) (fun q => q.1) (N, 0, N) ?_ ?_
  · simp only [go_sem, Nat.reduceEqDiff, Nat.reduceAdd, Nat.reduceLT, Nat.reduceLeDiff, reduceIte]
    exact ⟨trivial, rfl, trivial, by omega, by omega, trivial⟩
  rintro ⟨n, i, j⟩ e m ⟨g1, g5, g6, hj, hn, hq⟩
  dsimp only at g5 g6 hj hn hq
  by_cases hij : i < j
  · obtain ⟨n', rfl⟩ : ∃ n', n = n' + 1 := ⟨n - 1, by omega⟩
    rw [bs_step p n' i j hij] at hq
    obtain ⟨w1, w2, w3, w4⟩ := half64 i j (by omega)
    simp only [go_sem, Nat.reduceEqDiff, Nat.reduceAdd, Nat.reduceLT, Nat.reduceLeDiff, reduceIte, g1, g5, g6, dec_lt hij, w1, w2, show decide ((1 : Int) < 0) = false from rfl, w3, w4]
    refine hf ((i + j) / 2) (by omega) _ _ _ ?_
    cases hp : p ((i + j) / 2)
    · rw [hp] at hq
      simp only [go_sem, Nat.reduceEqDiff, Nat.reduceAdd, Nat.reduceLT, Nat.reduceLeDiff, reduceIte, g1, g5, g6, wrap_n1 ((i + j) / 2) (by omega)]
      refine Nx_of (n', (i + j) / 2 + 1, j) (by simp) ?_
      simp only [go_sem, Nat.reduceEqDiff, Nat.reduceAdd, Nat.reduceLT, Nat.reduceLeDiff, reduceIte, g1, g6]
      exact ⟨trivial, trivial, trivial, hj, by omega, hq⟩
    · rw [hp] at hq
      simp only [go_sem, Nat.reduceEqDiff, Nat.reduceAdd, Nat.reduceLT, Nat.reduceLeDiff, reduceIte, g1, g5, g6]
      refine Nx_of (n', i, (i + j) / 2) (by simp) ?_
      simp only [go_sem, Nat.reduceEqDiff, Nat.reduceAdd, Nat.reduceLT, Nat.reduceLeDiff, reduceIte, g1, g5]
      exact ⟨trivial, trivial, trivial, by omega, by omega, hq⟩
  · rw [bs_end p n i j hij] at hq
    simp only [go_sem, Nat.reduceEqDiff, Nat.reduceAdd, Nat.reduceLT, Nat.reduceLeDiff, reduceIte, g1, g5, g6, dec_ge (show j ≤ i by omega)]
    rw [hq]
def shP (tax : Int) (c : Ct) (w s : Int) (n : Nat) : Bool := decide (s ≤ (settle tax c w n).sh)
def shN (tax : Int) (c : Ct) (w s : Int) : Nat := bs (shP tax c w s) 10000001 0 10000001
def reachM (b : Bk) (f w s : Int) : Int × Int := if chk b = 0 then (match findC f b.cs with | none => (0, 1) | some c => if inR w c.fi c.la = true then (if taR s = true then (if 10000000 < shN b.tax c w s then (0, 3) else ((shN b.tax c w s : Nat), 0)) else (0, 1)) else (0, 1)) else (0, chk b)
theorem reach1_ok (b : Bk) (hb : BV b) (c : Ct) (h : CV c) (w s : Int) (h0 : c.fi ≤ w) (h1 : w ≤ c.la) (n : Nat) (hn : n ≤ 10000000) : RV ft 61 [I64 (n : Int), .pv (encB b) 0, .pv (encC c) 0, .pv (I64 w) 0, .pv (I64 s) 0] (.bool (shP b.tax c w s n)) := by
  refine RV_of ft61 rfl ?_
  simp only [c61, r61]
  simp only [go_sem, Nat.reduceEqDiff, Nat.reduceAdd, Nat.reduceLT, Nat.reduceLeDiff, reduceIte, WB62, WVH_eq (account_ok b.tax hb.x0 hb.x1 c h w n h0 h1 (by omega) (by omega)), true_and, fldSh]
  rfl
theorem Reach_ok (b : Bk) (h : NF b) (f w s : Int) : RV ft 30 [encB b, I64 f, I64 w, I64 s] (.tup [I64 (reachM b f w s).1, I64 (reachM b f w s).2]) := by
  refine RV_of ft30 rfl ?_
  simp only [c30, r30]
  have hI := contractIn_ok b h f w
  unfold reachM
  by_cases h0 : chk b = 0
  case neg =>
    rw [if_neg h0] at hI ⊢
    simp only [go_sem, Nat.reduceEqDiff, Nat.reduceAdd, Nat.reduceLT, Nat.reduceLeDiff, reduceIte, WB45, WVH_eq hI, true_and, ne0 h0]
  rw [if_pos h0] at hI ⊢
  have hb := chk_BV h0
  cases hs : findC f b.cs with
  | none =>
    rw [hs] at hI
    simp only [go_sem, Nat.reduceEqDiff, Nat.reduceAdd, Nat.reduceLT, Nat.reduceLeDiff, reduceIte, WB45, WVH_eq hI, true_and, show ((1 : Int) != 0) = true from rfl]
  | some c =>
  rw [hs] at hI
  have hc := hb.cv c (findC_mem hs).1
  dsimp only at hI ⊢
  cases hi : inR w c.fi c.la
  case false =>
    rw [hi] at hI
    have hI : RV ft 45 [encB b, I64 f, I64 w] (.tup [encC zC, I64 1]) := hI
    simp only [go_sem, Nat.reduceEqDiff, Nat.reduceAdd, Nat.reduceLT, Nat.reduceLeDiff, reduceIte, WB45, WVH_eq hI, true_and, show ((1 : Int) != 0) = true from rfl]
    rfl
  rw [hi] at hI
  have hI : RV ft 45 [encB b, I64 f, I64 w] (.tup [encC c, I64 0]) := hI
  obtain ⟨i0, i1⟩ := inR_iff.1 hi
  rw [if_pos rfl]
  cases ht : taR s
  case false =>
    simp only [go_sem, Nat.reduceEqDiff, Nat.reduceAdd, Nat.reduceLT, Nat.reduceLeDiff, reduceIte, WB45, WVH_eq hI, true_and, show ((0 : Int) != 0) = false from rfl, WB59, WVH_eq (isTake_ok _), ht]
    rfl
  rw [if_pos rfl]
  have hS : RV ft 60 [I64 10000001, .fn 61 [] [.pv (encB b) 0, .pv (encC c) 0, .pv (I64 w) 0, .pv (I64 s) 0]] (I64 ((shN b.tax c w s : Nat) : Int)) := Search_ok 10000001 (by omega) _ (shP b.tax c w s) fun (n : Nat) (hn : n < 10000001) e m K hK => by
    rw [WAH_fn]
    simp only [List.nil_append, List.cons_append]
    simp only [go_sem, Nat.reduceEqDiff, Nat.reduceAdd, Nat.reduceLT, Nat.reduceLeDiff, reduceIte, WB61, WVH_eq (reach1_ok b hb c hc w s i0 i1 n (by omega)), true_and]
    exact hK
  generalize shN b.tax c w s = N at hS
  by_cases hN : 10000000 < N
  · have c1 : decide ((10000000 : Int) < (N : Int)) = true := decide_eq_true (by omega)
    rw [if_pos hN]
    simp only [go_sem, Nat.reduceEqDiff, Nat.reduceAdd, Nat.reduceLT, Nat.reduceLeDiff, reduceIte, WB45, WVH_eq hI, true_and, show ((0 : Int) != 0) = false from rfl, WB59, WVH_eq (isTake_ok _), ht, WB60, WVH_eq hS, c1]
  · have c1 : decide ((10000000 : Int) < (N : Int)) = false := decide_eq_false (by omega)
    rw [if_neg hN]
    simp only [go_sem, Nat.reduceEqDiff, Nat.reduceAdd, Nat.reduceLT, Nat.reduceLeDiff, reduceIte, WB45, WVH_eq hI, true_and, show ((0 : Int) != 0) = false from rfl, WB59, WVH_eq (isTake_ok _), ht, WB60, WVH_eq hS, c1]
theorem ReachR_ok (b : Bk) (h : NF b) (f w s : Int) : RV ft 37 [encB b, I64 f, I64 w, I64 s] (.tup [I64 (reachM b f w s).1, I64 (reachM b f w s).2]) := by
  refine RV_of ft37 rfl ?_
  simp only [c37, r37]
  have hf := Contract_ok b f h.c
  have tq : inR s 0 10000000 = taR s := rfl
  unfold reachM
  by_cases h0 : chk b = 0
  case neg =>
    rw [if_neg h0]
    simp only [go_sem, Nat.reduceEqDiff, Nat.reduceAdd, Nat.reduceLT, Nat.reduceLeDiff, reduceIte, WB15, WVH_eq (CheckR_ok b h), true_and, ne0 h0]
  rw [if_pos h0]
  have hb := chk_BV h0
  have hC := CheckR_ok b h
  rw [h0] at hC
  cases hs : findC f b.cs with
  | none =>
    rw [hs] at hf
    simp only [go_sem, Nat.reduceEqDiff, Nat.reduceAdd, Nat.reduceLT, Nat.reduceLeDiff, reduceIte, WB15, WVH_eq hC, true_and, show ((0 : Int) != 0) = false from rfl, WB21, WVH_eq hf, Option.getD, Option.isSome]
  | some c =>
  rw [hs] at hf
  have hc := hb.cv c (findC_mem hs).1
  dsimp only
  cases hi : inR w c.fi c.la
  case false =>
    simp only [go_sem, Nat.reduceEqDiff, Nat.reduceAdd, Nat.reduceLT, Nat.reduceLeDiff, reduceIte, WB15, WVH_eq hC, true_and, show ((0 : Int) != 0) = false from rfl, WB21, WVH_eq hf, Option.getD, Option.isSome, WB55, WVH_eq (within_ok _ _ _), hi]
    rfl
  rw [if_pos rfl]
  obtain ⟨i0, i1⟩ := inR_iff.1 hi
  cases ht : taR s
  case false =>
    simp only [go_sem, Nat.reduceEqDiff, Nat.reduceAdd, Nat.reduceLT, Nat.reduceLeDiff, reduceIte, WB15, WVH_eq hC, true_and, show ((0 : Int) != 0) = false from rfl, WB21, WVH_eq hf, Option.getD, Option.isSome, WB55, WVH_eq (within_ok _ _ _), hi, tq, ht]
    rfl
  rw [if_pos rfl]
  simp only [go_sem, Nat.reduceEqDiff, Nat.reduceAdd, Nat.reduceLT, Nat.reduceLeDiff, reduceIte, WB15, WVH_eq hC, true_and, show ((0 : Int) != 0) = false from rfl, WB21, WVH_eq hf, Option.getD, Option.isSome, WB55, WVH_eq (within_ok _ _ _), hi, tq, ht]
  refine WL_inv (α := Nat × Nat × Nat) (fun q e mm => e 2 = I64 w ∧ e 3 = I64 s ∧ e 4 = .ptr 0 0 0 ∧ e 11 = .ptr 1 0 0 ∧ e 13 = I64 q.2.1 ∧ e 14 = I64 q.2.2 ∧ q.2.2 ≤ 10000001 ∧ q.2.2 - q.2.1 ≤ q.1 ∧ bs (shP b.tax c w s) q.1 q.2.1 q.2.2 = shN b.tax c w s ∧ mm = ⟨[.live [encB b] 3, .live [encC c] 9], []⟩) (fun q => q.1) (10000001, 0, 10000001) ?_ ?_
  · simp only [go_sem, Nat.reduceEqDiff, Nat.reduceAdd, Nat.reduceLT, Nat.reduceLeDiff, reduceIte]
    exact ⟨trivial, trivial, trivial, trivial, rfl, rfl, trivial, Nat.sub_le _ _, rfl, trivial⟩
  rintro ⟨n, i, j⟩ e m ⟨g2, g3, g4, g11, g13, g14, hj, hn, hq, rfl⟩
  dsimp only at g13 g14 hj hn hq
  by_cases hij : i < j
  · obtain ⟨n', rfl⟩ : ∃ n', n = n' + 1 := ⟨n - 1, by omega⟩
    rw [bs_step _ n' i j hij] at hq
    have w1 : IntKind.i64.wrap ((i : Int) + (j : Int)) = ((i + j : Nat) : Int) := (half64 i j (by omega)).1
    have w2 : IntKind.i64.wrap (((i + j : Nat) : Int).tdiv 2) = (((i + j) / 2 : Nat) : Int) := by
      rw [Int.tdiv_eq_ediv_of_nonneg (by omega), wrap_i64 _ (by omega) (by omega)]; omega
    have c1 : decide ((10000000 : Int) < (((i + j) / 2 : Nat) : Int)) = false := decide_eq_false (by omega)
    have hA := Settle_ok b.tax hb.x0 hb.x1 c hc w ((((i + j) / 2 : Nat) : Int)) i0 i1 (by omega) (by omega)
    cases hp : shP b.tax c w s ((i + j) / 2)
    · rw [hp] at hq
      have hp' : decide (s ≤ (settle b.tax c w (((i + j) / 2 : Nat) : Int)).sh) = false := hp
      simp only [go_sem, Nat.reduceEqDiff, Nat.reduceAdd, Nat.reduceLT, Nat.reduceLeDiff, reduceIte, g2, g3, g4, g11, g13, g14, dec_lt hij, w1, show decide ((2 : Int) = 0) = false from rfl, w2, c1, WB67, WVH_eq hA, true_and, fldSh, hp', wrap_n1 ((i + j) / 2) (by omega)]
      refine Nx_of (n', (i + j) / 2 + 1, j) (by simp) ?_
      simp only [go_sem, Nat.reduceEqDiff, Nat.reduceAdd, Nat.reduceLT, Nat.reduceLeDiff, reduceIte, g2, g3, g4, g11, g14]
      exact ⟨trivial, trivial, trivial, trivial, trivial, trivial, hj, by omega, hq, trivial⟩
    · rw [hp] at hq
      have hp' : decide (s ≤ (settle b.tax c w (((i + j) / 2 : Nat) : Int)).sh) = true := hp
      simp only [go_sem, Nat.reduceEqDiff, Nat.reduceAdd, Nat.reduceLT, Nat.reduceLeDiff, reduceIte, g2, g3, g4, g11, g13, g14, dec_lt hij, w1, show decide ((2 : Int) = 0) = false from rfl, w2, c1, WB67, WVH_eq hA, true_and, fldSh, hp']
      refine Nx_of (n', i, (i + j) / 2) (by simp) ?_
      simp only [go_sem, Nat.reduceEqDiff, Nat.reduceAdd, Nat.reduceLT, Nat.reduceLeDiff, reduceIte, g2, g3, g4, g11, g13]
      exact ⟨trivial, trivial, trivial, trivial, trivial, trivial, by omega, by omega, hq, trivial⟩
  · rw [bs_end _ n i j hij] at hq
    generalize shN b.tax c w s = N at hq
    subst hq
    by_cases hN : 10000000 < i
    · have c1 : decide ((10000000 : Int) < (i : Int)) = true := decide_eq_true (by omega)
      rw [if_pos hN]
      simp only [go_sem, Nat.reduceEqDiff, Nat.reduceAdd, Nat.reduceLT, Nat.reduceLeDiff, reduceIte, g2, g3, g4, g11, g13, g14, dec_ge (show j ≤ i by omega), c1]
    · have c1 : decide ((10000000 : Int) < (i : Int)) = false := decide_eq_false (by omega)
      rw [if_neg hN]
      simp only [go_sem, Nat.reduceEqDiff, Nat.reduceAdd, Nat.reduceLT, Nat.reduceLeDiff, reduceIte, g2, g3, g4, g11, g13, g14, dec_ge (show j ≤ i by omega), c1]
def exB : Bk := ⟨100, [⟨5, 10, 12, [600, 500], [⟨20000, 700⟩], 8000, 900, 3000, 40000⟩], [⟨1, 1, 5, 10, 0, 20000⟩, ⟨2, 1, 5, 10, 1, 10000⟩, ⟨3, 1, 5, 11, 0, 5000⟩, ⟨4, 1, 5, 11, 0, 4000⟩, ⟨5, 2, 5, 12, 0, 10001⟩]⟩
theorem Example_ok : RV ft 40 [] (encB exB) := by
  refine RV_of ft40 rfl ?_
  simp only [c40, r40]
  simp only [go_sem, Nat.reduceEqDiff, Nat.reduceAdd, Nat.reduceLT, Nat.reduceLeDiff, reduceIte]
  rfl
theorem exB_NF : NF exB := ⟨by decide, by decide, fun c hc => by
  simp only [exB, List.mem_singleton] at hc
  subst hc; exact ⟨by decide, by decide⟩⟩
theorem ex1 : (weekM exB 5 10).1 = ⟨30000, 3000, 27000, 18900, 8100, 1⟩ ∧ (weekM exB 5 10).2 = 0 := ⟨by kernel_rfl, by kernel_rfl⟩
theorem ex2 : (dueMM exB 5 12).1 = 40000 ∧ (dueMM exB 5 12).2 = 0 := ⟨by kernel_rfl, by kernel_rfl⟩
theorem ex3 : (reachM exB 5 11 3000).1 = 3333 ∧ (reachM exB 5 11 3000).2 = 0 := ⟨by kernel_rfl, by kernel_rfl⟩
theorem works_ok : RV ft 16 [] (.bool true) := by
  refine RV_of ft16 rfl ?_
  simp only [c16, r16]
  have h1 := Week_ok exB exB_NF 5 10
  rw [ex1.1, ex1.2] at h1
  have h2 := Due_ok exB exB_NF 5 12
  rw [ex2.1, ex2.2] at h2
  have h3 := Reach_ok exB exB_NF 5 11 3000
  rw [ex3.1, ex3.2] at h3
  have hz : AV.agg [I64 30000, I64 3000, I64 27000, I64 18900, I64 8100, I64 1] = encA ⟨30000, 3000, 27000, 18900, 8100, 1⟩ := rfl
  simp only [go_sem, Nat.reduceEqDiff, Nat.reduceAdd, Nat.reduceLT, Nat.reduceLeDiff, reduceIte, WB40, WVH_eq Example_ok, true_and, WB19, WVH_eq h1, WB23, WVH_eq h2, WB30, WVH_eq h3, hz, eqA_self, Bool.false_eq_true, if_false]
end Go.Ab.T
end
