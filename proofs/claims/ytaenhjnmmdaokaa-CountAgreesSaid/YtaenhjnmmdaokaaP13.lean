/-
  A part of the proofs over this seat.
  (The texts KcK23 KcK24, one behind the other.)
-/
import Derived.Test.YtaenhjnmmdaokaaP11
import Derived.Test.YtaenhjnmmdaokaaP8
set_option linter.unusedSimpArgs false
set_option linter.unusedVariables false
set_option linter.unusedSectionVars false
section
namespace Go.Ab.T
/-! ### When the numbers themselves are the truth -/
def Sg : List Ctr → V3
  | [] => V3.zero
  | c :: r => (toV c.so).add (Sg r)
theorem V3.add_assoc' (a b c : V3) : (a.add b).add c = a.add (b.add c) := V3.ext' (by simp only [V3.add]; omega) (by simp only [V3.add]; omega) (by simp only [V3.add]; omega)
theorem V3.zero_add' (a : V3) : V3.zero.add a = a := V3.ext' (by simp [V3.add, V3.zero]) (by simp [V3.add, V3.zero]) (by simp [V3.add, V3.zero])
theorem V3.add_zero' (a : V3) : a.add V3.zero = a := V3.ext' (by simp [V3.add, V3.zero]) (by simp [V3.add, V3.zero]) (by simp [V3.add, V3.zero])
theorem partC_eq (p : V3) : ∀ (cs : List Ctr) (t : Nat) (a : V3), (∀ c ∈ cs, (toV c.so).sum = roll c ∧ miss p c (toV c.so) = 0) → partC p cs t a = (none, a.add (Sg cs))
  | [], _, a, _ => by simp only [partC, Sg, V3.add_zero']
  | c :: r, t, a, h => by
    obtain ⟨h1, h2⟩ := h c (by simp)
    simp only [partC]
    rw [if_pos h1, if_pos h2, partC_eq p r _ _ fun c hc => h c (by simp [hc]), V3.add_assoc']
    rfl
theorem partC_some (p : V3) : ∀ (cs : List Ctr) (t : Nat) (a b : V3) (w : Int × Int), partC p cs t a = (some w, b) → w.1 = 1 ∨ w.1 = 2
  | [], _, _, _, _, h => by simp [partC] at h
  | c :: r, t, a, b, w, h => by
    simp only [partC] at h
    split at h
    · split at h
      · exact partC_some p r _ _ _ _ h
      · cases h; exact .inr rfl
    · cases h; exact .inl rfl
theorem partC_none (p : V3) : ∀ (cs : List Ctr) (t : Nat) (a b : V3), partC p cs t a = (none, b) → (∀ c ∈ cs, (toV c.so).sum = roll c ∧ miss p c (toV c.so) = 0) ∧ b = a.add (Sg cs)
  | [], _, a, b, h => by
    simp only [partC, Prod.mk.injEq, true_and] at h
    exact ⟨(fun c hc => nomatch hc), by rw [← h, Sg, V3.add_zero']⟩
  | c :: r, t, a, b, h => by
    simp only [partC] at h
    split at h
    · rename_i h1
      split at h
      · rename_i h2
        obtain ⟨h3, h4⟩ := partC_none p r _ _ _ h
        refine ⟨fun x hx => ?_, by rw [h4, V3.add_assoc']; rfl⟩
        cases hx with
        | head => exact ⟨h1, h2⟩
        | tail _ hx => exact h3 x hx
      · cases h
    · cases h
theorem partS_none {a : V3} : ∀ {l : List Int} {i : Nat}, partS a l i = none → ∀ j x, l[j]? = some x → a.at ((i + j : Nat) : Int) = x
  | [], _, _, _, _, h => by simp at h
  | n :: r, i, h, j, x, hx => by
    simp only [partS] at h
    split at h
    · rename_i h1
      cases j with
      | zero => simp at hx; rw [← hx]; exact h1
      | succ j =>
        have := partS_none h j x (by simpa using hx)
        rwa [show i + 1 + j = i + (j + 1) by omega] at this
    · cases h
theorem partS_some {a : V3} : ∀ {l : List Int} {i : Nat} {w : Int × Int}, partS a l i = some w → w.1 = 3
  | [], _, _, h => by simp [partS] at h
  | n :: r, i, w, h => by
    simp only [partS] at h
    split at h
    · exact partS_some h
    · cases h; rfl
theorem partS_eq {a : V3} : ∀ {l : List Int} {i : Nat}, (∀ j x, l[j]? = some x → a.at ((i + j : Nat) : Int) = x) → partS a l i = none
  | [], _, _ => rfl
  | n :: r, i, h => by
    simp only [partS]
    rw [if_pos (show a.at (i : Int) = n from h 0 n rfl)]
    exact partS_eq fun j x hx => by
      have := h (j + 1) x (by simpa using hx)
      rwa [show i + (j + 1) = i + 1 + j by omega] at this
theorem partT_some : ∀ {q r : List Int} {i : Nat} {w : Int × Int}, partT q r i = some w → ∃ j : Nat, w = (4, (j : Int))
  | [], _, _, _, h => by simp [partT] at h
  | _ :: _, [], _, _, h => by simp [partT] at h
  | y :: q, x :: r, i, w, h => by
    simp only [partT] at h
    split at h
    · cases h; exact ⟨i, rfl⟩
    · exact partT_some h
theorem IsT_own : ∀ {cs : List Ctr}, (∀ c ∈ cs, (toV c.so).nn ∧ (toV c.so).sum = roll c) → IsT (Sg cs) cs (cs.map fun c => toV c.so)
  | [], _ => rfl
  | c :: r, h => by
    refine ⟨h c (by simp), ?_⟩
    have := IsT_own (cs := r) fun c hc => h c (by simp [hc])
    rwa [show (Sg (c :: r)).sub (toV c.so) = Sg r from V3.ext' (by simp only [Sg, V3.sub, V3.add]; omega) (by simp only [Sg, V3.sub, V3.add]; omega) (by simp only [Sg, V3.sub, V3.add]; omega)]
theorem IsT_own' : ∀ {s : V3} {cs : List Ctr}, IsT s cs (cs.map fun c => toV c.so) → s = Sg cs ∧ ∀ c ∈ cs, (toV c.so).sum = roll c
  | s, [], h => ⟨h, fun c hc => nomatch hc⟩
  | s, c :: r, h => by
    obtain ⟨h1, h2⟩ := h
    obtain ⟨h3, h4⟩ := IsT_own' (cs := r) h2
    refine ⟨?_, fun x hx => ?_⟩
    · rw [Sg, ← h3]
      exact V3.ext' (by simp only [V3.sub, V3.add]; omega) (by simp only [V3.sub, V3.add]; omega) (by simp only [V3.sub, V3.add]; omega)
    · cases hx with
      | head => exact h1.2
      | tail _ hx => exact h4 x hx
theorem flw_zero {p : V3} {c : Ctr} {t : V3} (h : flw p c t = 0) : t = toV c.so ∧ miss p c t = 0 := by
  unfold flw at h
  split at h <;> split at h
  · exact ⟨by assumption, by assumption⟩
  all_goals omega
theorem flT_zero (p : V3) : ∀ {cs : List Ctr} {ts : List V3}, ts.length = cs.length → flT p cs ts = 0 → ts = (cs.map fun c => toV c.so) ∧ ∀ c ∈ cs, miss p c (toV c.so) = 0
  | [], [], _, _ => ⟨rfl, fun c hc => nomatch hc⟩
  | c :: cs, t :: ts, hl, h => by
    simp only [flT] at h
    have h1 := flw_bd p c t
    have h2 := flT_bd p cs ts
    obtain ⟨h3, h4⟩ := flw_zero (show flw p c t = 0 by omega)
    obtain ⟨h5, h6⟩ := flT_zero p (cs := cs) (ts := ts) (by simpa using hl) (by omega)
    refine ⟨by rw [h3, h5]; rfl, fun x hx => ?_⟩
    cases hx with
    | head => rw [← h3]; exact h4
    | tail _ hx => exact h6 x hx
theorem flT_own (p : V3) : ∀ {cs : List Ctr}, (∀ c ∈ cs, miss p c (toV c.so) = 0) → flT p cs (cs.map fun c => toV c.so) = 0
  | [], _ => rfl
  | c :: cs, h => by
    simp only [List.map_cons, flT]
    rw [flT_own p (cs := cs) fun c hc => h c (by simp [hc])]
    unfold flw
    rw [if_pos rfl, if_pos (h c (by simp))]; rfl
theorem Sg_wid {k : Nat} : ∀ {cs : List Ctr}, (∀ c ∈ cs, c.so.length = k) → (Sg cs).wid k
  | [], _ => by simp [Sg, V3.wid, V3.zero]
  | c :: r, h => by
    have h1 := Sg_wid (cs := r) fun c hc => h c (by simp [hc])
    have h2 := toV_wid c.so
    rw [h c (by simp)] at h2
    simp only [Sg, V3.wid, V3.add] at h1 h2 ⊢
    omega
theorem V3.eq_of_at {a b : V3} {k : Nat} (ha : a.wid k) (hb : b.wid k) (h : ∀ i : Nat, i < k → a.at (i : Int) = b.at (i : Int)) : a = b := by
  have e0 : a.x = b.x := by
    by_cases hk : 0 < k
    · exact h 0 hk
    · rw [ha.1 (by omega), hb.1 (by omega)]
  have e1 : a.y = b.y := by
    by_cases hk : 1 < k
    · exact h 1 hk
    · rw [ha.2.1 (by omega), hb.2.1 (by omega)]
  have e2 : a.z = b.z := by
    by_cases hk : 2 < k
    · exact h 2 hk
    · rw [ha.2.2 (by omega), hb.2.2 (by omega)]
  exact V3.ext' e0 e1 e2
def ownL (v : Ev) : List (List Int) := v.cs.map fun c => c.so
theorem ownL_map (v : Ev) : (ownL v).map toV = v.cs.map fun c => toV c.so := by unfold ownL; rw [List.map_map]; rfl
theorem partV_good {v : Ev} (h : EV4 v) : ((partV v = (0, -1) ∨ ∃ i : Nat, partV v = (4, (i : Int))) ∧ TrL v (ownL v) ∧ flT (toV v.pr) v.cs ((ownL v).map toV) = 0) ∨
    (((partV v).1 = 1 ∨ (partV v).1 = 2 ∨ (partV v).1 = 3) ∧ ∀ ts, IsT (toV v.se) v.cs ts → flT (toV v.pr) v.cs ts ≠ 0) := by
  have hk3 := h.k3
  have hsl := h.sl
  have hol : ∀ l ∈ ownL v, l.length = v.pr.length := fun l hl => by
    obtain ⟨c, hc, rfl⟩ := List.mem_map.1 hl
    exact (h.cs c hc).len
  by_cases hg : ∃ ts, IsT (toV v.se) v.cs ts ∧ flT (toV v.pr) v.cs ts = 0
  · obtain ⟨ts, h1, h2⟩ := hg
    obtain ⟨rfl, h4⟩ := flT_zero _ (IsT_len h1) h2
    obtain ⟨h5, h6⟩ := IsT_own' h1
    refine .inl ⟨?_, ⟨hol, by rw [ownL_map]; exact h1⟩, by rw [ownL_map]; exact h2⟩
    have e1 := partC_eq (toV v.pr) v.cs 0 V3.zero fun c hc => ⟨h6 c hc, h4 c hc⟩
    rw [V3.zero_add', ← h5] at e1
    have e2 : partS (toV v.se) v.se 0 = none := partS_eq fun j x hx => by
      rw [Nat.zero_add]
      exact toV_at (by omega) hx
    unfold partV
    rw [e1]
    dsimp only
    rw [e2]
    dsimp only
    cases e3 : partT v.se v.st 0 with
    | none => exact .inl rfl
    | some w =>
      obtain ⟨j, rfl⟩ := partT_some e3
      exact .inr ⟨j, rfl⟩
  · refine .inr ⟨?_, fun ts h1 h2 => hg ⟨ts, h1, h2⟩⟩
    unfold partV
    cases e1 : partC (toV v.pr) v.cs 0 V3.zero with
    | mk o a =>
      cases o with
      | some w =>
        have := partC_some _ _ _ _ _ _ e1
        dsimp only
        omega
      | none =>
        obtain ⟨h3, h4⟩ := partC_none _ _ _ _ _ e1
        rw [V3.zero_add'] at h4
        dsimp only
        cases e2 : partS a v.se 0 with
        | some w => exact .inr (.inr (partS_some e2))
        | none =>
          exfalso
          have h5 := partS_none e2
          have h6 : toV v.se = a := by
            refine V3.eq_of_at (k := v.pr.length) (by rw [← hsl]; exact toV_wid _) (by rw [h4]; exact Sg_wid fun c hc => (h.cs c hc).len) fun i hi => ?_
            have hx : v.se[i]? = some v.se[i] := List.getElem?_eq_getElem (by omega)
            have := h5 i _ hx
            rw [Nat.zero_add] at this
            rw [this]
            exact toV_at (by omega) hx
          refine hg ⟨_, by rw [h6, h4]; exact IsT_own fun c hc => ⟨V3.nn_of fun n hn => (h.cs c hc).so n hn |>.1, (h3 c hc).1⟩, flT_own _ fun c hc => (h3 c hc).2⟩
theorem bndF_const (f : Ch → Int) (k : Int) : ∀ L : List Ch, (∀ x ∈ L, f x = k) → bndF f L (k, k) = (k, k)
  | [], _ => rfl
  | c :: r, h => by
    simp only [bndF]
    rw [h c (by simp)]
    simp only [Int.min_self, Int.max_self]
    exact bndF_const f k r fun x hx => h x (by simp [hx])
theorem bnd_const (f : Ch → Int) (k : Int) {L : List Ch} (hn : L ≠ []) (h : ∀ x ∈ L, f x = k) : bnd f L = (k, k) := by
  match L, hn, h with
  | c :: r, _, h =>
    show bndF f (c :: r) (f c, f c) = _
    rw [h c (by simp)]
    exact bndF_const f k _ h
/-- Where the numbers are the truth, all that is likely at a till is what it says. -/
theorem lik_own {v : Ev} (h : EV4 v) (hT : TrL v (ownL v)) (hf : flT (toV v.pr) v.cs ((ownL v).map toV) = 0) : (likV v 0).2 = 0 ∧ ∀ (i : Nat) (c : Ctr), v.cs[i]? = some c → ∀ x ∈ (likV v i).1, x.t = toV c.so ∧ x.f = 0 := by
  have hfew := few_le h hT
  have hm : (likV v 0).2 = 0 := by omega
  refine ⟨hm, fun i c hc x hx => ?_⟩
  obtain ⟨ts, t, h1, h2, h3, rfl⟩ := (likV_mem h (tr_has h hT) hc).1 hx
  rw [hm] at h2
  obtain ⟨rfl, h4⟩ := flT_zero _ (IsT_len h1) h2
  rw [List.getElem?_map, hc] at h3
  simp only [Option.map_some, Option.some.injEq] at h3
  subst h3
  refine ⟨rfl, ?_⟩
  show flw _ _ _ = 0
  unfold flw
  rw [if_pos rfl, if_pos (h4 c (List.mem_of_getElem? hc))]; rfl
theorem tillsM_nil {P : List Ch → Bool} {v : Ev} (h : ∀ i, i < v.cs.length → P (likV v i).1 = false) : tillsM P v = [] := by
  unfold tillsM
  rw [List.map_eq_nil_iff, List.filter_eq_nil_iff]
  intro i hi
  have := h i (List.mem_range.1 hi)
  unfold okL
  rw [this]; simp
theorem tillsM_ne {v : Ev} (h : EV4 v) (ht : hasTr v = true) (hm : (likV v 0).2 ≠ 0) : tillsM sP v ≠ [] := by
  obtain ⟨⟨ts, h1, h2⟩, _⟩ := likV_min h ht (i := 0) (by have := h.n1; omega)
  have key : ∀ (cs : List Ctr) (ts : List V3), ts.length = cs.length → flT (toV v.pr) cs ts ≠ 0 → ∃ (i : Nat) (c : Ctr) (t : V3), cs[i]? = some c ∧ ts[i]? = some t ∧ 0 < flw (toV v.pr) c t := by
    intro cs
    induction cs with
    | nil => intro ts hl h; cases ts <;> simp [flT] at h
    | cons c cs ih =>
      intro ts hl h
      cases ts with
      | nil => simp at hl
      | cons t ts =>
        simp only [flT] at h
        have := flw_bd (toV v.pr) c t
        by_cases hz : flw (toV v.pr) c t = 0
        · obtain ⟨i, c', t', e1, e2, e3⟩ := ih ts (by simpa using hl) (by omega)
          exact ⟨i + 1, c', t', by simpa using e1, by simpa using e2, e3⟩
        · exact ⟨0, c, t, rfl, rfl, by omega⟩
  obtain ⟨i, c, t, e1, e2, e3⟩ := key v.cs ts (IsT_len h1) (by rw [h2]; exact hm)
  have hx := (likV_mem h ht e1 (x := mkc (toV v.pr) c t)).2 ⟨ts, t, h1, h2, e2, rfl⟩
  have hp := sP_at hx e3
  have hi := (List.getElem?_eq_some_iff.1 e1).1
  intro hn
  have := tillsM_in sP v hi
  rw [hn, hp] at this
  simp at this
end Go.Ab.T
end

section
namespace Go.Ab.T
set_option maxRecDepth 8000
set_option maxHeartbeats 1000000
theorem CountAgrees_ok (v : Ev) (till sh : Int) : RV ft 3 [encE v, I64 till, I64 sh] (.bool true) := by
  refine RV_of ft3 rfl ?_
  simp only [c3, r3]
  cases hv : (!farB v && evOK v)
  · simp only [go_sem, Nat.reduceEqDiff, Nat.reduceAdd, Nat.reduceLT, Nat.reduceLeDiff, reduceIte, WB12, WVH_eq (valid_ok v), true_and, hv, Bool.not_false, WB13, WVH_eq works_ok]
  have hv' := hv
  rw [Bool.and_eq_true, Bool.not_eq_true'] at hv'
  have hS := SE.of_far hv'.1
  have h := (EV_of hv'.1 hv'.2).toEV4
  by_cases t1 : till < 0
  · simp only [go_sem, Nat.reduceEqDiff, Nat.reduceAdd, Nat.reduceLT, Nat.reduceLeDiff, reduceIte, WB12, WVH_eq (valid_ok v), true_and, hv, Bool.not_true, decide_eq_true t1, WB13, WVH_eq works_ok]
  by_cases t2 : (v.cs.length : Int) ≤ till
  · simp only [go_sem, Nat.reduceEqDiff, Nat.reduceAdd, Nat.reduceLT, Nat.reduceLeDiff, reduceIte, WB12, WVH_eq (valid_ok v), true_and, hv, Bool.not_true, decide_eq_false t1, ECells, Cs_len, decide_eq_true t2, WB13, WVH_eq works_ok]
  by_cases t3 : sh < 0
  · simp only [go_sem, Nat.reduceEqDiff, Nat.reduceAdd, Nat.reduceLT, Nat.reduceLeDiff, reduceIte, WB12, WVH_eq (valid_ok v), true_and, hv, Bool.not_true, decide_eq_false t1, ECells, decide_eq_false t2, decide_eq_true t3, WB13, WVH_eq works_ok]
  by_cases t4 : (v.pr.length : Int) ≤ sh
  · simp only [go_sem, Nat.reduceEqDiff, Nat.reduceAdd, Nat.reduceLT, Nat.reduceLeDiff, reduceIte, WB12, WVH_eq (valid_ok v), true_and, hv, Bool.not_true, decide_eq_false t1, ECells, decide_eq_false t2, decide_eq_false t3, decide_eq_true t4, WB13, WVH_eq works_ok]
  have hk3 := h.k3
  have hn4 := h.n4
  have hPa := Parts_ok hS
  rw [if_pos hv'.2, if_pos hv'.2, show errE v = 0 by unfold errE; rw [if_pos hv'.2]] at hPa
  have hFe := Fewest_ok hS
  have hRe := Really_ok hS till sh
  have hSu := Suspects_ok hS
  unfold tillR at hSu
  unfold bndR at hRe
  have gJ : ∀ (j : List Blk) (y : Blk), (j ++ [y])[j.length]? = some y := fun j y => by simp
  have sC : ∀ a b : Int, (encS a b).cells = [I64 a, I64 b] := fun _ _ => rfl
  have sA : ∀ a b : Int, (encS a b).isAgg = true := fun _ _ => rfl
  have sE : ∀ a b : Int, AV.agg [I64 a, I64 b] = encS a b := fun _ _ => rfl
  have sw : ∀ a b c d : Int, writeCells (encS a b) 0 [I64 c, I64 d] = some (encS c d) := fun _ _ _ _ => rfl
  have hE : ∀ s : Int, eqAV true [.i, .i] (encS s s) (encS s s) = some true := fun s => by
    simp [eqAV, encS, eqs, eq1]
  cases ht : hasTr v
  · have e0 : errT v 0 0 = 3 := by
      unfold errT
      rw [if_pos hv'.2, if_pos (by rw [Bool.and_eq_true, inR_iff, inR_iff]; have := h.n1; have := h.k1; omega), ht]; rfl
    have e1 : errT v till sh = 3 := by
      unfold errT
      rw [if_pos hv'.2, if_pos (by rw [Bool.and_eq_true, inR_iff, inR_iff]; omega), ht]; rfl
    have z3 : ¬ ((3 : Int) = 0) := by omega
    rw [e0, if_neg z3] at hFe hSu
    rw [e1, if_neg z3] at hRe
    rcases partV_good h with ⟨_, hT, _⟩ | ⟨hw, _⟩
    · rw [tr_has h hT] at ht; cases ht
    generalize partV v = w at hPa hw
    obtain ⟨w1, w2⟩ := w
    dsimp only at hPa hw
    have q1 : (w1 == 0) = false := beq_eq_false_iff_ne.2 (by omega)
    have q4 : (w1 == 4) = false := beq_eq_false_iff_ne.2 (by omega)
    simp only [go_sem, Nat.reduceEqDiff, Nat.reduceAdd, Nat.reduceLT, Nat.reduceLeDiff, reduceIte, WB12, WVH_eq (valid_ok v), true_and, hv, Bool.not_true, decide_eq_false t1, ECells, decide_eq_false t2, decide_eq_false t3, decide_eq_false t4, WB14, WVH_eq hPa, WB15, WVH_eq hFe, WB16, WVH_eq hRe, WB17, WVH_eq hSu, sC, sA, sE, sw, bne_self_eq_false, show ((3 : Int) != 0) = true from rfl, q1, q4, WB13, WVH_eq works_ok]
  have e0 : errT v 0 0 = 0 := errT00 h ht
  have e1 : errT v till sh = 0 := errT_of h ht (by omega) (by omega)
  rw [e0, if_pos rfl] at hFe hSu
  rw [e1, if_pos rfl] at hRe
  rcases partV_good h with ⟨hw, hT, hf⟩ | ⟨hw, hno⟩
  · obtain ⟨hm, hL⟩ := lik_own h hT hf
    have hlt : till.toNat < v.cs.length := by omega
    obtain ⟨c, hc⟩ : ∃ c, v.cs[till.toNat]? = some c := ⟨_, List.getElem?_eq_getElem hlt⟩
    have hco := h.cs c (List.mem_of_getElem? hc)
    have hcl := hco.len
    obtain ⟨s, hs⟩ : ∃ s, c.so[sh.toNat]? = some s := ⟨_, List.getElem?_eq_getElem (by omega)⟩
    have hb : bnd (fun c => c.t.at sh) (likV v till.toNat).1 = (s, s) := bnd_const _ _ (likV_ne h ht hlt) fun x hx => by
      have e := (hL _ c hc x hx).1
      show x.t.at sh = s
      rw [e, show sh = ((sh.toNat : Nat) : Int) by omega]
      exact toV_at (by omega) hs
    have hn : tillsM sP v = [] := tillsM_nil fun i hi => by
      unfold sP
      rw [List.any_eq_false]
      intro x hx
      have := (hL i _ (List.getElem?_eq_getElem hi) x hx).2
      simp; omega
    rw [hm] at hFe
    rw [hn] at hSu
    rw [hb] at hRe
    have hI : RV ft 18 [encE v, encIss (v.cs.map fun c => c.so)] (.bool true) := by
      have := IsTruth_ok h (ownL v)
      rw [(isTrB_iff h).2 hT] at this
      exact this
    have hi1 : ∀ m, idxAt m (encCs v.cs) (I64 till) 6 = some (.pv (encC c) 0) := Cs_idxI (by omega) hc
    have hi2 : ∀ m, idxAt m (encIs c.so) (I64 sh) 1 = some (.pv (I64 s) 0) := Is_idxI (by omega) hs
    rcases hw with hw | ⟨i, hw⟩
    · rw [hw] at hPa
      simp only [go_sem, Nat.reduceEqDiff, Nat.reduceAdd, Nat.reduceLT, Nat.reduceLeDiff, reduceIte, WB12, WVH_eq (valid_ok v), true_and, hv, Bool.not_true, decide_eq_false t1, ECells, decide_eq_false t2, decide_eq_false t3, decide_eq_false t4, WB14, WVH_eq hPa, WB15, WVH_eq hFe, WB16, WVH_eq hRe, WB17, WVH_eq hSu, sC, sA, sE, sw, bne_self_eq_false, hi1, hi2, CCells, hE, WB19, WVH_eq (own_ok h), WB18, WVH_eq hI, WB13, WVH_eq works_ok, List.length_nil, Int.natCast_zero, Bool.false_eq_true]
    · rw [hw] at hPa
      have i1 : ((i : Int) == -1) = false := beq_eq_false_iff_ne.2 (by omega)
      simp only [go_sem, Nat.reduceEqDiff, Nat.reduceAdd, Nat.reduceLT, Nat.reduceLeDiff, reduceIte, WB12, WVH_eq (valid_ok v), true_and, hv, Bool.not_true, decide_eq_false t1, ECells, decide_eq_false t2, decide_eq_false t3, decide_eq_false t4, WB14, WVH_eq hPa, WB15, WVH_eq hFe, WB16, WVH_eq hRe, WB17, WVH_eq hSu, sC, sA, sE, sw, bne_self_eq_false, hi1, hi2, CCells, hE, WB19, WVH_eq (own_ok h), WB18, WVH_eq hI, WB13, WVH_eq works_ok, List.length_nil, Int.natCast_zero, Bool.false_eq_true, show ((4 : Int) == 0) = false from rfl, i1]
  · have hmin := likV_min h ht (i := 0) (by omega)
    obtain ⟨⟨ts, m1, m2⟩, _⟩ := hmin
    have hm0 := flT_bd (toV v.pr) v.cs ts
    have hmn : (likV v 0).2 ≠ 0 := fun e => hno ts m1 (by omega)
    have hne := tillsM_ne h ht hmn
    have hmp : 0 < (likV v 0).2 := by omega
    have hlp : (0 : Int) < ((tillsM sP v).length : Int) := by have := List.length_pos_iff.2 hne; omega
    generalize partV v = w at hPa hw
    obtain ⟨w1, w2⟩ := w
    dsimp only at hPa hw
    have q1 : (w1 == 0) = false := beq_eq_false_iff_ne.2 (by omega)
    have q4 : (w1 == 4) = false := beq_eq_false_iff_ne.2 (by omega)
    simp only [go_sem, Nat.reduceEqDiff, Nat.reduceAdd, Nat.reduceLT, Nat.reduceLeDiff, reduceIte, WB12, WVH_eq (valid_ok v), true_and, hv, Bool.not_true, decide_eq_false t1, ECells, decide_eq_false t2, decide_eq_false t3, decide_eq_false t4, WB14, WVH_eq hPa, WB15, WVH_eq hFe, WB16, WVH_eq hRe, WB17, WVH_eq hSu, sC, sA, sE, sw, bne_self_eq_false, q1, q4, decide_eq_true hmp, decide_eq_true hlp, WB13, WVH_eq works_ok]
end Go.Ab.T
end
