/-
  A part of the proofs over this seat.
  (The texts KsK20 KsK21 KsK22, one behind the other.)
-/
import Derived.Test.YtapkbaihdcabnaaQ2
import Derived.Test.YtapkbaihdcabnaaP5
set_option linter.unusedSimpArgs false
set_option linter.unusedVariables false
set_option linter.unusedSectionVars false
section
namespace Go.Ab.T
set_option maxRecDepth 8000
set_option maxHeartbeats 4000000
def tokOf : AV → Option Nat
  | .sl _ (.at t) => some t
  | _ => none
/-- Two slices that are appended to apart. -/
def Dis (v o : AV) : Prop := ∀ t, tokOf v = some t → tokOf o = some t → False
theorem Dis.symm {v o : AV} (h : Dis v o) : Dis o v := fun t h1 h2 => h t h2 h1
theorem AppV.app2 {T : Nat} {es os : List AV} {v o : AV} {toks : List (Nat × Nat)} (h : AppV T es v toks) (h2 : AppV T os o toks) (hd : Dis v o) {y : AV} {tk : Tk} {sz bytes : Nat} {blks : List Blk} {K : AV × Mem → Prop}
    (hs : ∀ e ∈ es, e.cells.length = sz) (hy : y.cells.length = sz) (hl : (es.length + 1) * (bytes + 1) ≤ limit)
    (hk : ∀ v' toks', AppV T (es ++ [y]) v' toks' → AppV T os o toks' → Dis v' o → K (v', ⟨blks, toks'⟩)) : @OptH _ (appendAt ⟨blks, toks⟩ false v (.sl [y] tk) T sz bytes) ⟨K⟩ := by
  have h1 : hdSz [y] sz = true := by simp [hdSz, hy]
  have h3 : hdSz es sz = true := by
    cases es with
    | nil => rfl
    | cons e r => simp [hdSz, hs e (by simp)]
  rcases h with ⟨rfl, rfl⟩ | ⟨hne, t, rfl, ht⟩
  · simp only [appendAt, Mem.elems, h1, h3, OptH, List.length_cons, List.length_nil, List.nil_append, appTk]
    simp only [List.length_nil] at hl
    rw [if_neg (by simp), if_pos ⟨by simpa using hl, trivial⟩]
    refine hk _ _ (.inr ⟨by simp, toks.length, rfl, by simp⟩) ?_ ?_
    · rcases h2 with h2 | ⟨g1, t2, g2, g3⟩
      · exact .inl h2
      · exact .inr ⟨g1, t2, g2, by rw [List.getElem?_append_left (List.getElem?_eq_some_iff.1 g3).1]; exact g3⟩
    · intro t h4 h5
      rcases h2 with ⟨_, rfl⟩ | ⟨g1, t2, rfl, g3⟩
      · cases h5
      · cases h4; cases h5
        have := (List.getElem?_eq_some_iff.1 g3).1
        omega
  · simp only [appendAt, Mem.elems, h1, h3, OptH, List.length_cons, List.length_nil, appTk]
    rw [if_neg (by simp), if_pos ⟨by simpa using hl, trivial⟩]
    have : es.length ≠ 0 := by simpa using hne
    simp only [Bool.false_eq_true, if_false, Nat.zero_add, Nat.succ_ne_zero]
    rw [if_pos ⟨ht, this⟩]
    have hlt := (List.getElem?_eq_some_iff.1 ht).1
    refine hk _ _ (.inr ⟨by simp, t, rfl, by simp [hlt]⟩) ?_ ?_
    · rcases h2 with h2 | ⟨g1, t2, rfl, g3⟩
      · exact .inl h2
      · refine .inr ⟨g1, t2, rfl, ?_⟩
        have hne' : t ≠ t2 := fun e => hd t rfl (by rw [e]; rfl)
        rw [List.getElem?_set_ne hne']; exact g3
    · intro t' h4 h5
      cases h4
      exact hd t rfl h5
theorem snPsT (m : Mem) (q : Nat) (l : List Py) (tk : Tk) : snap m (q + 3) (.sl (l.map encP) tk) = encPs l := by
  show AV.sl ((l.map encP).map (snap m (q + 2))) .unk = _
  rw [List.map_map, show snap m (q + 2) ∘ encP = encP from funext fun t => snP m q t]; rfl
theorem cellsP (l : List Py) : ∀ e ∈ l.map encP, e.cells.length = 2 := fun e he => by
  obtain ⟨x, _, rfl⟩ := List.mem_map.1 he; rfl
theorem mapP_snoc (l : List Py) (f c : Int) : l.map encP ++ [AV.agg [I64 f, I64 c]] = (l ++ [(⟨f, c⟩ : Py)]).map encP := by rw [List.map_append]; rfl
theorem lft_bound {b : Bk} (hb : BV b) {c : Ct} (hc : CV c) (w : Int) {l : List Py} (hp : PB l) : -100000000000 ≤ lftM b w l c ∧ lftM b w l c ≤ 20000000000 := by
  have h1 := dueM_bound hb hc w
  have h2 := hp.s c.film
  unfold lftM
  omega
theorem flat_cons (h : Ct → List Py) (c : Ct) (r : List Ct) : (c :: r).flatMap h = h c ++ r.flatMap h := rfl
theorem Pay_ok (b : Bk) (h : NF b) (w : Int) (l : List Py) (hr : l.length < 1073741824) : RV ft 28 [encB b, I64 w, encPs l] (.tup [encPs (payM b w l).1.1, encPs (payM b w l).1.2, I64 (payM b w l).2]) := by
  refine RV_of ft28 rfl ?_
  simp only [c28, r28]
  have hI := checkWeek_ok b h w
  unfold payM
  by_cases h0 : chk b = 0
  case neg =>
    rw [if_neg h0] at hI ⊢
    simp only [go_sem, Nat.reduceEqDiff, Nat.reduceAdd, Nat.reduceLT, Nat.reduceLeDiff, reduceIte, WB41, WVH_eq hI, true_and, ne0 h0]
    rfl
  rw [if_pos h0] at hI ⊢
  have hb := chk_BV h0
  cases hw : wkR w
  case false =>
    rw [hw] at hI
    have hI : RV ft 41 [encB b, I64 w] (I64 1) := hI
    simp only [go_sem, Nat.reduceEqDiff, Nat.reduceAdd, Nat.reduceLT, Nat.reduceLeDiff, reduceIte, WB41, WVH_eq hI, true_and, show ((1 : Int) != 0) = true from rfl]
    rfl
  rw [hw] at hI
  have hI : RV ft 41 [encB b, I64 w] (I64 0) := hI
  have z : ((0 : Int) != 0) = false := rfl
  rw [if_pos rfl]
  have hP := validPayments_ok b l h.c hr
  cases hp : psOK b.cs l
  case false =>
    rw [hp] at hP
    simp only [go_sem, Nat.reduceEqDiff, Nat.reduceAdd, Nat.reduceLT, Nat.reduceLeDiff, reduceIte, WB41, WVH_eq hI, true_and, z, WB56, WVH_eq hP]
    rfl
  rw [hp] at hP
  rw [if_pos rfl]
  have hPB := psOK_PB hp
  obtain ⟨w0, w1⟩ := inR_iff.1 hw
  have hcl := hb.cl
  obtain ⟨S, s1, s2, hS⟩ := byFilm_ok b.cs (by omega)
  have hSl : S.length = b.cs.length := s1.length_eq
  have q1 : payL b w l = S.flatMap (payC b w l) := ord_sorted hb s1 s2 _
  have q2 : ovrL b w l = S.flatMap (ovrC b w l) := ord_sorted hb s1 s2 _
  rw [q1, q2]
  simp only [go_sem, Nat.reduceEqDiff, Nat.reduceAdd, Nat.reduceLT, Nat.reduceLeDiff, reduceIte, WB41, WVH_eq hI, true_and, z, WB56, WVH_eq hP, WB57, WVH_eq hS]
  refine WL_inv (α := Nat × List Ct × List Py × List Py) (fun q e mm => e 1 = I64 w ∧ e 2 = encPs l ∧ e 3 = .ptr 0 0 0 ∧ e 25 = encCs S ∧ e 26 = I64 S.length ∧ e 27 = I64 q.1 ∧ S.drop q.1 = q.2.1 ∧ q.2.2.1 ++ q.2.1.flatMap (payC b w l) = S.flatMap (payC b w l) ∧ q.2.2.2 ++ q.2.1.flatMap (ovrC b w l) = S.flatMap (ovrC b w l) ∧ q.2.2.1.length ≤ q.1 ∧ q.2.2.2.length ≤ q.1 ∧
    ∃ bl tk, mm = ⟨.live [encB b] 3 :: bl, tk⟩ ∧ AppV 67 (q.2.2.1.map encP) (e 6) tk ∧ AppV 67 (q.2.2.2.map encP) (e 7) tk ∧ Dis (e 6) (e 7)) (fun q => q.2.1.length) (0, S, [], []) ?_ ?_
  · simp only [go_sem, Nat.reduceEqDiff, Nat.reduceAdd, Nat.reduceLT, Nat.reduceLeDiff, reduceIte]
    exact ⟨trivial, trivial, trivial, trivial, trivial, rfl, trivial, trivial, trivial, by simp, by simp, _, _, rfl, .inl ⟨rfl, rfl⟩, .inl ⟨rfl, rfl⟩, fun t h _ => by cases h⟩
  rintro ⟨k, r, ps, os⟩ e m ⟨g1, g2, g3, g25, g26, g27, hd, hq, ho, hlp, hlo, bl, tk, rfl, hA, hB, hD⟩
  dsimp only at g27 hd hq ho hlp hlo hA hB
  obtain ⟨V6, g6⟩ : ∃ v, v = e 6 := ⟨_, rfl⟩
  obtain ⟨V7, g7⟩ : ∃ v, v = e 7 := ⟨_, rfl⟩
  rw [← g6] at hA hD
  rw [← g7] at hB hD
  replace g6 := g6.symm
  replace g7 := g7.symm
  cases r with
  | nil =>
    have h3 := drop_nil hd
    obtain ⟨t6, rfl⟩ := hA.sl
    obtain ⟨t7, rfl⟩ := hB.sl
    have e1 : ps = S.flatMap (payC b w l) := by rw [← hq]; simp
    have e2 : os = S.flatMap (ovrC b w l) := by rw [← ho]; simp
    simp only [go_sem, Nat.reduceEqDiff, Nat.reduceAdd, Nat.reduceLT, Nat.reduceLeDiff, reduceIte, g1, g2, g3, g6, g7, g25, g26, g27, dec_ge h3]
    rw [← e1, ← e2]
    show AV.tup [snap _ (8 + 3) (.sl (ps.map encP) t6), snap _ (8 + 3) (.sl (os.map encP) t7), I64 0] = _
    rw [snPsT, snPsT]
  | cons x r =>
    obtain ⟨hk, hd2, hlt⟩ := drop_cons hd
    have hx := hb.cv x (s1.mem_iff.1 (List.mem_of_getElem? hk))
    have hdu := due_ok b hb x hx w w0 w1
    have hpa := paid_ok l x.film hPB
    have hlb := lft_bound hb hx w hPB
    rw [flat_cons, ← List.append_assoc] at hq ho
    have q3 : payC b w l x = if 0 < lftM b w l x then [⟨x.film, lftM b w l x⟩] else [] := rfl
    have q4 : ovrC b w l x = if lftM b w l x < 0 then [⟨x.film, -lftM b w l x⟩] else [] := rfl
    have w2 : IntKind.i64.wrap (dueM b x w - paidS x.film l) = lftM b w l x := wrap_i64 _ (by unfold lftM at hlb; omega) (by unfold lftM at hlb; omega)
    generalize lftM b w l x = v at hlb q3 q4 w2
    cases c1 : decide (0 < v)
    case true =>
      have k1 := of_decide_eq_true c1
      rw [if_pos k1] at q3
      rw [if_neg (by omega)] at q4
      rw [q3] at hq
      rw [q4, List.append_nil] at ho
      simp only [go_sem, Nat.reduceEqDiff, Nat.reduceAdd, Nat.reduceLT, Nat.reduceLeDiff, reduceIte, g1, g2, g3, g6, g7, g25, g26, g27, dec_lt hlt, Cs_idx hk, WB48, WVH_eq hdu, WB58, WVH_eq hpa, true_and, w2, c1]
      refine hA.app2 hB hD (cellsP ps) rfl (by simp only [List.length_map, limit]; omega) fun V' tk' k2 k3 k4 => ?_
      rw [mapP_snoc] at k2
      simp only [go_sem, Nat.reduceEqDiff, Nat.reduceAdd, Nat.reduceLT, Nat.reduceLeDiff, reduceIte, g1, g2, g3, g6, g7, g25, g26, g27, wrap_n1 k (by omega)]
      refine Nx_of (k + 1, r, ps ++ [⟨x.film, v⟩], os) (by simp) ?_
      simp only [go_sem, Nat.reduceEqDiff, Nat.reduceAdd, Nat.reduceLT, Nat.reduceLeDiff, reduceIte, g1, g2, g3, g6, g7, g25, g26, g27]
      exact ⟨trivial, trivial, trivial, trivial, trivial, trivial, hd2, hq, ho, by simp; omega, by omega, _, _, rfl, k2, k3, k4⟩
    case false =>
      have k1 := of_decide_eq_false c1
      rw [if_neg k1] at q3
      rw [q3, List.append_nil] at hq
      cases c2 : decide (v < 0)
      case true =>
        rw [if_pos (of_decide_eq_true c2)] at q4
        rw [q4] at ho
        have w3 : IntKind.i64.wrap (0 - v) = -v := by rw [Int.zero_sub]; exact wrap_i64 _ (by omega) (by omega)
        simp only [go_sem, Nat.reduceEqDiff, Nat.reduceAdd, Nat.reduceLT, Nat.reduceLeDiff, reduceIte, g1, g2, g3, g6, g7, g25, g26, g27, dec_lt hlt, Cs_idx hk, WB48, WVH_eq hdu, WB58, WVH_eq hpa, true_and, w2, c1, c2, w3]
        refine hB.app2 hA hD.symm (cellsP os) rfl (by simp only [List.length_map, limit]; omega) fun V' tk' k2 k3 k4 => ?_
        rw [mapP_snoc] at k2
        simp only [go_sem, Nat.reduceEqDiff, Nat.reduceAdd, Nat.reduceLT, Nat.reduceLeDiff, reduceIte, g1, g2, g3, g6, g7, g25, g26, g27, wrap_n1 k (by omega)]
        refine Nx_of (k + 1, r, ps, os ++ [⟨x.film, -v⟩]) (by simp) ?_
        simp only [go_sem, Nat.reduceEqDiff, Nat.reduceAdd, Nat.reduceLT, Nat.reduceLeDiff, reduceIte, g1, g2, g3, g6, g7, g25, g26, g27]
        exact ⟨trivial, trivial, trivial, trivial, trivial, trivial, hd2, hq, ho, by omega, by simp; omega, _, _, rfl, k3, k2, k4.symm⟩
      case false =>
        rw [if_neg (of_decide_eq_false c2)] at q4
        rw [q4, List.append_nil] at ho
        simp only [go_sem, Nat.reduceEqDiff, Nat.reduceAdd, Nat.reduceLT, Nat.reduceLeDiff, reduceIte, g1, g2, g3, g6, g7, g25, g26, g27, dec_lt hlt, Cs_idx hk, WB48, WVH_eq hdu, WB58, WVH_eq hpa, true_and, w2, c1, c2, wrap_n1 k (by omega)]
        refine Nx_of (k + 1, r, ps, os) (by simp) ?_
        simp only [go_sem, Nat.reduceEqDiff, Nat.reduceAdd, Nat.reduceLT, Nat.reduceLeDiff, reduceIte, g1, g2, g3, g6, g7, g25, g26, g27]
        exact ⟨trivial, trivial, trivial, trivial, trivial, trivial, hd2, hq, ho, by omega, by omega, _, _, rfl, hA, hB, hD⟩
end Go.Ab.T
end

section
namespace Go.Ab.T
set_option maxRecDepth 8000
set_option maxHeartbeats 4000000
theorem ordG_succ (cs : List Ct) (h : Ct → List Py) (n : Nat) (f : Int) : ordG cs h (n + 1) f = (match findC f cs with | none => [] | some c => h c) ++ ordG cs h n (f + 1) := rfl
theorem PayR_ok (b : Bk) (h : NF b) (w : Int) (l : List Py) (hr : l.length < 1073741824) : RV ft 36 [encB b, I64 w, encPs l] (.tup [encPs (payM b w l).1.1, encPs (payM b w l).1.2, I64 (payM b w l).2]) := by
  refine RV_of ft36 rfl ?_
  simp only [c36, r36]
  have hI := CheckR_ok b h
  unfold payM
  by_cases h0 : chk b = 0
  case neg =>
    rw [if_neg h0]
    simp only [go_sem, Nat.reduceEqDiff, Nat.reduceAdd, Nat.reduceLT, Nat.reduceLeDiff, reduceIte, WB15, WVH_eq hI, true_and, ne0 h0]
    rfl
  rw [h0] at hI
  rw [if_pos h0]
  have hb := chk_BV h0
  have z : ((0 : Int) != 0) = false := rfl
  have wq : inR w 0 99 = wkR w := rfl
  cases hw : wkR w
  case false =>
    simp only [go_sem, Nat.reduceEqDiff, Nat.reduceAdd, Nat.reduceLT, Nat.reduceLeDiff, reduceIte, WB15, WVH_eq hI, true_and, z, WB55, WVH_eq (within_ok _ _ _), wq, hw]
    rfl
  rw [if_pos rfl]
  have hP := ArePaid_ok b l h.c hr
  cases hp : psOK b.cs l
  case false =>
    rw [hp] at hP
    simp only [go_sem, Nat.reduceEqDiff, Nat.reduceAdd, Nat.reduceLT, Nat.reduceLeDiff, reduceIte, WB15, WVH_eq hI, true_and, z, WB55, WVH_eq (within_ok _ _ _), wq, hw, WB27, WVH_eq hP]
    rfl
  rw [hp] at hP
  rw [if_pos rfl]
  have hPB := psOK_PB hp
  have hpl := hPB.len
  obtain ⟨w0, w1⟩ := inR_iff.1 hw
  simp only [go_sem, Nat.reduceEqDiff, Nat.reduceAdd, Nat.reduceLT, Nat.reduceLeDiff, reduceIte, WB15, WVH_eq hI, true_and, z, WB55, WVH_eq (within_ok _ _ _), wq, hw, WB27, WVH_eq hP]
  refine WL_inv (α := Nat × Nat × List Py × List Py) (fun q e mm => e 1 = I64 w ∧ e 2 = encPs l ∧ e 3 = .ptr 0 0 0 ∧ e 10 = I64 q.2.1 ∧ q.1 + q.2.1 = 100 ∧ q.2.2.1 ++ ordG b.cs (payC b w l) q.1 q.2.1 = payL b w l ∧ q.2.2.2 ++ ordG b.cs (ovrC b w l) q.1 q.2.1 = ovrL b w l ∧ q.2.2.1.length ≤ q.2.1 ∧ q.2.2.2.length ≤ q.2.1 ∧
    ∃ bl tk, mm = ⟨.live [encB b] 3 :: bl, tk⟩ ∧ AppV 67 (q.2.2.1.map encP) (e 6) tk ∧ AppV 67 (q.2.2.2.map encP) (e 7) tk ∧ Dis (e 6) (e 7)) (fun q => q.1) (100, 0, [], []) ?_ ?_
  · simp only [go_sem, Nat.reduceEqDiff, Nat.reduceAdd, Nat.reduceLT, Nat.reduceLeDiff, reduceIte]
    exact ⟨trivial, trivial, trivial, rfl, trivial, rfl, rfl, by simp, by simp, _, _, rfl, .inl ⟨rfl, rfl⟩, .inl ⟨rfl, rfl⟩, fun t h _ => by cases h⟩
  rintro ⟨n, k, ps, os⟩ e m ⟨g1, g2, g3, g10, hnk, hq, ho, hlp, hlo, bl, tk, rfl, hA, hB, hD⟩
  dsimp only at g10 hnk hq ho hlp hlo hA hB
  obtain ⟨V6, g6⟩ : ∃ v, v = e 6 := ⟨_, rfl⟩
  obtain ⟨V7, g7⟩ : ∃ v, v = e 7 := ⟨_, rfl⟩
  rw [← g6] at hA hD
  rw [← g7] at hB hD
  replace g6 := g6.symm
  replace g7 := g7.symm
  cases n with
  | zero =>
    obtain ⟨t6, rfl⟩ := hA.sl
    obtain ⟨t7, rfl⟩ := hB.sl
    have e1 : ps = payL b w l := by rw [← hq]; simp [ordG]
    have e2 : os = ovrL b w l := by rw [← ho]; simp [ordG]
    have c1 : decide ((k : Int) ≤ 99) = false := decide_eq_false (by omega)
    simp only [go_sem, Nat.reduceEqDiff, Nat.reduceAdd, Nat.reduceLT, Nat.reduceLeDiff, reduceIte, g1, g2, g3, g6, g7, g10, c1]
    rw [← e1, ← e2]
    show AV.tup [snap _ (8 + 3) (.sl (ps.map encP) t6), snap _ (8 + 3) (.sl (os.map encP) t7), I64 0] = _
    rw [snPsT, snPsT]
  | succ n =>
    rw [ordG_succ] at hq ho
    have c1 : decide ((k : Int) ≤ 99) = true := decide_eq_true (by omega)
    have hk1 : ((k + 1 : Nat) : Int) = (k : Int) + 1 := by omega
    rw [← hk1] at hq ho
    have hf := Contract_ok b (k : Int) h.c
    cases hs : findC (k : Int) b.cs with
    | none =>
      rw [hs] at hf hq ho
      simp only [go_sem, Nat.reduceEqDiff, Nat.reduceAdd, Nat.reduceLT, Nat.reduceLeDiff, reduceIte, g1, g2, g3, g6, g7, g10, c1, WB21, WVH_eq hf, true_and, Option.getD, Option.isSome, wrap_n1 k (by omega)]
      refine Nx_of (n, k + 1, ps, os) (by simp) ?_
      simp only [go_sem, Nat.reduceEqDiff, Nat.reduceAdd, Nat.reduceLT, Nat.reduceLeDiff, reduceIte, g1, g2, g3, g6, g7]
      exact ⟨trivial, trivial, trivial, trivial, by omega, hq, ho, by omega, by omega, _, _, rfl, hA, hB, hD⟩
    | some c =>
    rw [hs] at hf hq ho
    have hc := hb.cv c (findC_mem hs).1
    have hcf := (findC_mem hs).2
    have hdu := dueR_ok b hb c hc w w0 w1
    have hdb := dueM_bound hb hc w
    have hlb := lft_bound hb hc w hPB
    have q3 : payC b w l c = if 0 < lftM b w l c then [⟨c.film, lftM b w l c⟩] else [] := rfl
    have q4 : ovrC b w l c = if lftM b w l c < 0 then [⟨c.film, -lftM b w l c⟩] else [] := rfl
    have q5 : leftG (k : Int) (dueM b c w) l = lftM b w l c := by rw [leftG_eq, ← hcf]; rfl
    dsimp only at hq ho
    rw [← List.append_assoc] at hq ho
    rw [hcf] at q3 q4
    generalize lftM b w l c = v at hlb q3 q4 q5
    generalize dueM b c w = D at hdu hdb q5
    simp only [go_sem, Nat.reduceEqDiff, Nat.reduceAdd, Nat.reduceLT, Nat.reduceLeDiff, reduceIte, g1, g2, g3, g6, g7, g10, c1, WB21, WVH_eq hf, true_and, Option.getD, Option.isSome, WB65, WVH_eq hdu]
    refine WL_inv (α := Nat × List Py × Int) (fun q e mm => e 1 = I64 w ∧ e 2 = encPs l ∧ e 3 = .ptr 0 0 0 ∧ e 6 = V6 ∧ e 7 = V7 ∧ e 10 = I64 k ∧ e 13 = I64 q.2.2 ∧ e 14 = I64 q.1 ∧ l.drop q.1 = q.2.1 ∧ leftG (k : Int) q.2.2 q.2.1 = v ∧ q.2.2 ≤ D ∧ -((q.1 : Int) * 1000000000) ≤ q.2.2 ∧ ∃ bl, mm = ⟨.live [encB b] 3 :: bl, tk⟩) (fun q => q.2.1.length) (0, l, D) ?_ ?_
    · simp only [go_sem, Nat.reduceEqDiff, Nat.reduceAdd, Nat.reduceLT, Nat.reduceLeDiff, reduceIte, g1, g2, g3, g6, g7, g10]
      exact ⟨trivial, trivial, trivial, trivial, trivial, trivial, trivial, rfl, trivial, q5, Int.le_refl _, by simp; omega, _, rfl⟩
    rintro ⟨j, r, a⟩ e m ⟨g1, g2, g3, g6, g7, g10, g13, g14, hd, hv, a1, a0, bl, rfl⟩
    dsimp only at g13 g14 hd hv a1 a0
    cases r with
    | cons x r =>
      obtain ⟨hk, hd2, hlt⟩ := drop_cons hd
      have hx := hPB.c x (List.mem_of_getElem? hk)
      rw [leftG_cons] at hv
      cases e1 : (x.film == (k : Int))
      · rw [e1, if_neg (by decide)] at hv
        simp only [go_sem, Nat.reduceEqDiff, Nat.reduceAdd, Nat.reduceLT, Nat.reduceLeDiff, reduceIte, g1, g2, g3, g6, g7, g10, g13, g14, dec_lt hlt, Ps_idx hk, e1, wrap_n1 j (by omega)]
        refine Nx_of (j + 1, r, a) (by simp) ?_
        simp only [go_sem, Nat.reduceEqDiff, Nat.reduceAdd, Nat.reduceLT, Nat.reduceLeDiff, reduceIte, g1, g2, g3, g6, g7, g10, g13]
        exact ⟨trivial, trivial, trivial, trivial, trivial, trivial, trivial, trivial, hd2, hv, a1, by omega, _, rfl⟩
      · rw [e1, if_pos rfl] at hv
        have w2 : IntKind.i64.wrap (a - x.cents) = a - x.cents := wrap_i64 _ (by omega) (by omega)
        simp only [go_sem, Nat.reduceEqDiff, Nat.reduceAdd, Nat.reduceLT, Nat.reduceLeDiff, reduceIte, g1, g2, g3, g6, g7, g10, g13, g14, dec_lt hlt, Ps_idx hk, e1, w2, wrap_n1 j (by omega)]
        refine Nx_of (j + 1, r, a - x.cents) (by simp) ?_
        simp only [go_sem, Nat.reduceEqDiff, Nat.reduceAdd, Nat.reduceLT, Nat.reduceLeDiff, reduceIte, g1, g2, g3, g6, g7, g10]
        exact ⟨trivial, trivial, trivial, trivial, trivial, trivial, trivial, trivial, hd2, hv, by omega, by omega, _, rfl⟩
    | nil =>
    have h3 := drop_nil hd
    have hv : a = v := hv
    subst hv
    cases c2 : decide (0 < a)
    case true =>
      have k1 := of_decide_eq_true c2
      rw [if_pos k1] at q3
      rw [if_neg (by omega)] at q4
      rw [q3] at hq
      rw [q4, List.append_nil] at ho
      simp only [go_sem, Nat.reduceEqDiff, Nat.reduceAdd, Nat.reduceLT, Nat.reduceLeDiff, reduceIte, g1, g2, g3, g6, g7, g10, g13, g14, dec_ge h3, c2]
      refine hA.app2 hB hD (cellsP ps) rfl (by simp only [List.length_map, limit]; omega) fun V' tk' k2 k3 k4 => ?_
      rw [mapP_snoc] at k2
      have c3 : decide (a < 0) = false := decide_eq_false (by omega)
      simp only [go_sem, Nat.reduceEqDiff, Nat.reduceAdd, Nat.reduceLT, Nat.reduceLeDiff, reduceIte, g1, g2, g3, g6, g7, g10, g13, g14, c3, wrap_n1 k (by omega)]
      refine Nx_of (n, k + 1, ps ++ [⟨(k : Int), a⟩], os) (by simp) ?_
      simp only [go_sem, Nat.reduceEqDiff, Nat.reduceAdd, Nat.reduceLT, Nat.reduceLeDiff, reduceIte, g1, g2, g3, g6, g7]
      exact ⟨trivial, trivial, trivial, trivial, by omega, hq, ho, by simp; omega, by omega, _, _, rfl, k2, k3, k4⟩
    case false =>
      have k1 := of_decide_eq_false c2
      rw [if_neg k1] at q3
      rw [q3, List.append_nil] at hq
      cases c3 : decide (a < 0)
      case true =>
        rw [if_pos (of_decide_eq_true c3)] at q4
        rw [q4] at ho
        have w3 : IntKind.i64.wrap (0 - a) = -a := by rw [Int.zero_sub]; exact wrap_i64 _ (by omega) (by omega)
        simp only [go_sem, Nat.reduceEqDiff, Nat.reduceAdd, Nat.reduceLT, Nat.reduceLeDiff, reduceIte, g1, g2, g3, g6, g7, g10, g13, g14, dec_ge h3, c2, c3, w3]
        refine hB.app2 hA hD.symm (cellsP os) rfl (by simp only [List.length_map, limit]; omega) fun V' tk' k2 k3 k4 => ?_
        rw [mapP_snoc] at k2
        simp only [go_sem, Nat.reduceEqDiff, Nat.reduceAdd, Nat.reduceLT, Nat.reduceLeDiff, reduceIte, g1, g2, g3, g6, g7, g10, g13, g14, wrap_n1 k (by omega)]
        refine Nx_of (n, k + 1, ps, os ++ [⟨(k : Int), -a⟩]) (by simp) ?_
        simp only [go_sem, Nat.reduceEqDiff, Nat.reduceAdd, Nat.reduceLT, Nat.reduceLeDiff, reduceIte, g1, g2, g3, g6, g7]
        exact ⟨trivial, trivial, trivial, trivial, by omega, hq, ho, by omega, by simp; omega, _, _, rfl, k3, k2, k4.symm⟩
      case false =>
        rw [if_neg (of_decide_eq_false c3)] at q4
        rw [q4, List.append_nil] at ho
        simp only [go_sem, Nat.reduceEqDiff, Nat.reduceAdd, Nat.reduceLT, Nat.reduceLeDiff, reduceIte, g1, g2, g3, g6, g7, g10, g13, g14, dec_ge h3, c2, c3, wrap_n1 k (by omega)]
        refine Nx_of (n, k + 1, ps, os) (by simp) ?_
        simp only [go_sem, Nat.reduceEqDiff, Nat.reduceAdd, Nat.reduceLT, Nat.reduceLeDiff, reduceIte, g1, g2, g3, g6, g7]
        exact ⟨trivial, trivial, trivial, trivial, by omega, hq, ho, by omega, by omega, _, _, rfl, hA, hB, hD⟩
end Go.Ab.T
end

section
namespace Go.Ab.T
set_option maxRecDepth 8000
set_option maxHeartbeats 4000000
theorem hotPsT (q : Nat) (l : List Py) (tk : Tk) : hot (q + 3) (.sl (l.map encP) tk) = false := by
  show (l.map encP).any (hot (q + 2)) = false
  rw [List.any_map, List.any_eq_false]; intro x _; simp only [Function.comp]; rw [show hot (q + 2) (encP x) = false from hotP q x]; decide
theorem ordG_len {cs : List Ct} {h : Ct → List Py} (hh : ∀ c, (h c).length ≤ 1) : ∀ (n : Nat) (f : Int), (ordG cs h n f).length ≤ n
  | 0, f => Nat.le_refl _
  | n + 1, f => by
    rw [ordG_succ, List.length_append]
    have := ordG_len hh n (f + 1) (cs := cs)
    split
    · simp only [List.length_nil]; omega
    · have := hh ‹Ct›; omega
theorem payC_len (b : Bk) (w : Int) (l : List Py) (c : Ct) : (payC b w l c).length ≤ 1 := by unfold payC; split <;> simp
theorem ovrC_len (b : Bk) (w : Int) (l : List Py) (c : Ct) : (ovrC b w l c).length ≤ 1 := by unfold ovrC; split <;> simp
theorem payM_len (b : Bk) (w : Int) (l : List Py) : (payM b w l).1.1.length ≤ 100 ∧ (payM b w l).1.2.length ≤ 100 := by
  unfold payM
  split
  · split
    · split
      · exact ⟨ordG_len (payC_len b w l) 100 0, ordG_len (ovrC_len b w l) 100 0⟩
      · exact ⟨by simp, by simp⟩
    · exact ⟨by simp, by simp⟩
  · exact ⟨by simp, by simp⟩
theorem SharePays_run (b : Bk) (w : Int) (l : List Py) : RV ft 12 [encB b, I64 w, encPs l] (.bool true) := by
  refine RV_of ft12 rfl ?_
  simp only [c12, r12]
  cases h1 : farM b
  case true => simp only [go_sem, Nat.reduceEqDiff, Nat.reduceAdd, Nat.reduceLT, Nat.reduceLeDiff, reduceIte, WB14, WVH_eq (Far_ok b), true_and, h1, WB16, WVH_eq works_ok]
  cases c1 : decide ((150 : Int) < (l.length : Int))
  case true => simp only [go_sem, Nat.reduceEqDiff, Nat.reduceAdd, Nat.reduceLT, Nat.reduceLeDiff, reduceIte, WB14, WVH_eq (Far_ok b), true_and, h1, c1, WB16, WVH_eq works_ok]
  have hF := farM_NF h1
  have hl : l.length ≤ 150 := by have := of_decide_eq_false c1; omega
  obtain ⟨l1, l2, l3⟩ := farM_le h1
  have hP := Pay_ok b hF w l (by omega)
  have hR := PayR_ok b hF w l (by omega)
  simp only [go_sem, Nat.reduceEqDiff, Nat.reduceAdd, Nat.reduceLT, Nat.reduceLeDiff, reduceIte, WB14, WVH_eq (Far_ok b), true_and, h1, c1, WF22, WVH_eq (Copy_ok b l1 l2 l3)]
  show @OptH _ (appendAt _ false (.sl [] .tight) (.sl (l.map encP) .unk) 67 2 16) ⟨_⟩
  refine AppV.copy (T := 67) (ys := l.map encP) (hdSz_map' encP 2 _ fun _ => rfl) (by rw [List.length_map]; unfold limit; omega) fun v1 toks1 hv1 _ _ => ?_
  obtain ⟨k1, rfl⟩ := hv1.sl
  have e1 : ∀ m, snap m 12 (.sl (l.map encP) k1) = encPs l := fun m => snPsT m 9 l k1
  have e2 : hot 12 (.sl (l.map encP) k1) = false := hotPsT 9 l k1
  have hL := payM_len b w l
  generalize payM b w l = P at hP hR hL
  simp only [go_sem, Nat.reduceEqDiff, Nat.reduceAdd, Nat.reduceLT, Nat.reduceLeDiff, reduceIte, e1, e2, WB28, WVH_eq hP, WB36, WVH_eq hR, true_and, WB29, WVH_eq (samePaid_ok P.1.1 (by omega)), WVH_eq (samePaid_ok P.1.2 (by omega)), WB16, WVH_eq works_ok]
end Go.Ab.T
end
