/-
  A part of the proofs over this seat.
  (The texts KcM4 KcK16 KcK17 KcK0, one behind the other.)
-/
import Derived.Test.YtaenhjnmmdaokaaP1
import Derived.Test.YtaenhjnmmdaokaaP7
import Derived.Test.YtaenhjnmmdaokaaA5
import Derived.KernelRfl
set_option linter.unusedSimpArgs false
set_option linter.unusedVariables false
set_option linter.unusedSectionVars false
section
namespace Go.Ab.T
def addL (a b : List Int) : List Int := List.zipWith (· + ·) a b
def mixL (a b : List Int) (s : Nat) : List Int := (addL a b).take s ++ a.drop s
theorem mixL_0 (a b : List Int) : mixL a b 0 = a := by simp [mixL]
theorem addL_len {a b : List Int} (h : a.length = b.length) : (addL a b).length = a.length := by simp [addL, h]
theorem mixL_len {a b : List Int} (h : a.length = b.length) {s : Nat} (hs : s ≤ a.length) : (mixL a b s).length = a.length := by
  unfold mixL; rw [List.length_append, List.length_take, List.length_drop, addL_len h]; omega
theorem mixL_all {a b : List Int} (h : a.length = b.length) : mixL a b a.length = addL a b := by
  unfold mixL; rw [List.drop_length, List.append_nil, List.take_of_length_le (by rw [addL_len h]; omega)]
theorem mixL_get {a b : List Int} (h : a.length = b.length) {s : Nat} (hs : s ≤ a.length) : (mixL a b s)[s]? = a[s]? := by
  unfold mixL
  rw [List.getElem?_append_right (by rw [List.length_take, addL_len h]; omega), List.length_take, addL_len h, Nat.min_eq_left hs, Nat.sub_self, List.getElem?_drop, Nat.add_zero]
theorem mixL_set {a b : List Int} (h : a.length = b.length) {s : Nat} {x y : Int} (hx : a[s]? = some x) (hy : b[s]? = some y) : (mixL a b s).set s (x + y) = mixL a b (s + 1) := by
  have hs := (List.getElem?_eq_some_iff.1 hx).1
  unfold mixL
  rw [List.set_append_right _ _ (by rw [List.length_take, addL_len h]; omega), List.length_take, addL_len h, Nat.min_eq_left (by omega), Nat.sub_self]
  have hd : a.drop s = x :: a.drop (s + 1) := by
    rw [List.drop_eq_getElem_cons hs]
    rw [(List.getElem?_eq_some_iff.1 hx).2]
  have ht : (addL a b).take (s + 1) = (addL a b).take s ++ [x + y] := by
    rw [List.take_succ_eq_append_getElem (by rw [addL_len h]; exact hs)]
    congr 1
    have : (addL a b)[s]? = some (x + y) := by
      unfold addL
      rw [List.getElem?_zipWith, hx, hy]
    rw [List.getElem?_eq_some_iff] at this
    rw [this.2]
  rw [hd, ht, List.set_cons_zero, List.append_assoc]; rfl
theorem toV_addL {a b : List Int} (h : a.length = b.length) (h3 : a.length ≤ 3) : toV (addL a b) = (toV a).add (toV b) := by
  match a, b, h, h3 with
  | [], [], _, _ => rfl
  | [x], [y], _, _ => simp [addL, toV, V3.add]
  | [x, x'], [y, y'], _, _ => simp [addL, toV, V3.add]
  | [x, x', x''], [y, y', y''], _, _ => simp [addL, toV, V3.add]
  | _ :: _ :: _ :: _ :: _, _, _, h => simp at h
theorem toV_inj {a b : List Int} (h : a.length = b.length) (h3 : a.length ≤ 3) (e : toV a = toV b) : a = b := by
  rw [← fromV_toV (k := a.length) rfl h3, ← fromV_toV (k := a.length) h.symm h3, e]
theorem toV_sum {a : List Int} (h3 : a.length ≤ 3) : a.sum = (toV a).sum := by
  have := fromV_sum (toV_wid a)
  rw [fromV_toV rfl h3] at this
  exact this
/-- Whether tickets, in lists, are a truth. -/
def trB (k : Nat) (se : List Int) : List Ctr → List (List Int) → List Int → Bool
  | [], [], all => decide (all = se)
  | c :: cs, l :: ls, all => (decide ((l.length : Int) = k) && (allR l 0 20 && decide (l.sum = roll c))) && trB k se cs ls (addL all l)
  | _, _, _ => false
theorem V3.nn_of {l : List Int} (h : ∀ n ∈ l, 0 ≤ n) : (toV l).nn := by
  have f : ∀ i, 0 ≤ l.getD i 0 := fun i => by
    rw [List.getD_eq_getElem?_getD]
    cases hi' : l[i]? with
    | none => exact Int.le_refl _
    | some a => exact h a (List.mem_of_getElem? hi')
  exact ⟨f 0, f 1, f 2⟩
theorem nn_mem {l : List Int} (h3 : l.length ≤ 3) (h : (toV l).nn) : ∀ n ∈ l, 0 ≤ n ∧ n ≤ (toV l).sum := by
  match l, h3 with
  | [], _ => intro n hn; cases hn
  | [x], _ =>
    simp only [toV, V3.nn, V3.sum, List.getD_cons_zero, List.getD_cons_succ, List.getD_nil] at h ⊢
    intro n hn; simp at hn; subst hn; omega
  | [x, x'], _ =>
    simp only [toV, V3.nn, V3.sum, List.getD_cons_zero, List.getD_cons_succ, List.getD_nil] at h ⊢
    intro n hn; simp at hn; omega
  | [x, x', x''], _ =>
    simp only [toV, V3.nn, V3.sum, List.getD_cons_zero, List.getD_cons_succ, List.getD_nil] at h ⊢
    intro n hn; simp at hn; omega
  | _ :: _ :: _ :: _ :: _, h => simp at h
theorem trB_iff {k : Nat} (hk : k ≤ 3) {se : List Int} (hse : se.length = k) : ∀ {cs : List Ctr} {ls : List (List Int)} {all : List Int}, (∀ c ∈ cs, roll c ≤ 20) → all.length = k → (trB k se cs ls all = true ↔ (∀ l ∈ ls, l.length = k) ∧ IsT ((toV se).sub (toV all)) cs (ls.map toV))
  | [], [], all, _, ha => by
    have e : trB k se [] [] all = true ↔ all = se := by simp only [trB, decide_eq_true_eq]
    rw [e]
    constructor
    · rintro rfl
      refine ⟨(fun l hl => nomatch hl), ?_⟩
      show (toV all).sub (toV all) = V3.zero
      exact V3.ext' (Int.sub_self _) (Int.sub_self _) (Int.sub_self _)
    · rintro ⟨_, h⟩
      refine toV_inj (by omega) (by omega) ?_
      have h : (toV se).sub (toV all) = V3.zero := h
      have h1 := congrArg V3.x h
      have h2 := congrArg V3.y h
      have h3 := congrArg V3.z h
      simp only [V3.sub, V3.zero] at h1 h2 h3
      exact V3.ext' (by omega) (by omega) (by omega)
  | c :: cs, l :: ls, all, hr, ha => by
    simp only [trB, Bool.and_eq_true, decide_eq_true_eq, allR_iff, List.map_cons, IsT, List.mem_cons, forall_eq_or_imp]
    have hrc := hr c (by simp)
    constructor
    · rintro ⟨⟨h1, h2, h3⟩, h4⟩
      have hl : l.length = k := by omega
      have ih := (trB_iff hk hse (fun c hc => hr c (by simp [hc])) (by rw [addL_len (by omega)]; exact ha)).1 h4
      rw [toV_addL (by omega) (by omega)] at ih
      refine ⟨⟨hl, ih.1⟩, ⟨V3.nn_of fun n hn => (h2 n hn).1, by rw [← toV_sum (by omega)]; exact h3⟩, ?_⟩
      rw [show ((toV se).sub (toV all)).sub (toV l) = (toV se).sub ((toV all).add (toV l)) from V3.ext' (by simp only [V3.sub, V3.add]; omega) (by simp only [V3.sub, V3.add]; omega) (by simp only [V3.sub, V3.add]; omega)]
      exact ih.2
    · rintro ⟨⟨hl, h1⟩, ⟨h2, h3⟩, h4⟩
      have hm := nn_mem (by omega) h2
      refine ⟨⟨by omega, fun n hn => ?_, by rw [toV_sum (by omega)]; exact h3⟩, ?_⟩
      · have := hm n hn; omega
      · refine (trB_iff hk hse (fun c hc => hr c (by simp [hc])) (by rw [addL_len (by omega)]; exact ha)).2 ⟨h1, ?_⟩
        rw [toV_addL (by omega) (by omega)]
        rw [show (toV se).sub ((toV all).add (toV l)) = ((toV se).sub (toV all)).sub (toV l) from V3.ext' (by simp only [V3.sub, V3.add]; omega) (by simp only [V3.sub, V3.add]; omega) (by simp only [V3.sub, V3.add]; omega)]
        exact h4
  | [], _ :: _, _, _, _ => by simp [trB, IsT]
  | _ :: _, [], _, _, _ => by simp [trB, IsT]
/-- A truth of an evening, in lists. -/
def TrL (v : Ev) (ls : List (List Int)) : Prop := (∀ l ∈ ls, l.length = v.pr.length) ∧ IsT (toV v.se) v.cs (ls.map toV)
def zeros (k : Nat) : List Int := List.replicate k 0
theorem toV_zeros (k : Nat) : toV (zeros k) = V3.zero := by
  have f : ∀ i, (zeros k).getD i 0 = 0 := fun i => by
    rw [List.getD_eq_getElem?_getD]
    unfold zeros
    rw [List.getElem?_replicate]
    split <;> rfl
  exact V3.ext' (f 0) (f 1) (f 2)
def dotL : List Int → List Int → Int
  | a :: r, b :: q => a * b + dotL r q
  | _, _ => 0
theorem dotL_eq {a b : List Int} (h : a.length = b.length) (h3 : a.length ≤ 3) : dotL a b = (toV a).dot (toV b) := by
  match a, b, h, h3 with
  | [], [], _, _ => rfl
  | [x], [y], _, _ => simp [dotL, toV, V3.dot]
  | [x, x'], [y, y'], _, _ => simp [dotL, toV, V3.dot]
  | [x, x', x''], [y, y', y''], _, _ => simp [dotL, toV, V3.dot]; omega
  | _ :: _ :: _ :: _ :: _, _, _, h => simp at h
end Go.Ab.T
end

section
namespace Go.Ab.T
set_option maxRecDepth 8000
set_option maxHeartbeats 4000000
theorem make_ok (m : Mem) (k : Nat) (h : k ≤ 1000) : makeAt m (.int .i64 0) 1 8 (I64 (k : Int)) (I64 (k : Int)) = some (.ref m.blks.length 0 k, newBlk m ((zeros k).map I64) 1) := by
  rw [makeAt_int, if_pos ⟨⟨by omega, rfl⟩, by rw [Int.toNat_natCast]; unfold limit; omega, rfl, rfl⟩, Int.toNat_natCast]
  unfold zeros
  rw [List.map_replicate]
theorem store_own {m : Mem} {id k : Nat} {es : List AV} {x y : Int} (h : m.blks[id]? = some (.live es 1)) (hv : es[k]? = some (I64 y)) : storeAt m (.ptr id k 0) (I64 x) 1 = some ⟨m.blks.set id (.live (es.set k (I64 x)) 1), m.toks⟩ := by
  simp only [storeAt, h, hv]
  rfl
theorem Iss_idx' {ls : List (List Int)} {k : Nat} {l : List Int} (h : ls[k]? = some l) (m : Mem) : idxAt m (encIss ls) (I64 (k : Int)) 1 = some (.pv (encIs l) 0) := Iss_idx h m
def isTrB (v : Ev) (ls : List (List Int)) : Bool := trB v.pr.length v.se v.cs ls (zeros v.pr.length)
theorem isTrB_iff {v : Ev} (h : EV4 v) {ls : List (List Int)} : isTrB v ls = true ↔ TrL v ls := by
  unfold isTrB TrL
  rw [trB_iff h.k3 h.sl (fun c hc => (h.cs c hc).ro.2) (by simp [zeros]), toV_zeros]
  rw [show (toV v.se).sub V3.zero = toV v.se from V3.ext' (by simp [V3.sub, V3.zero]) (by simp [V3.sub, V3.zero]) (by simp [V3.sub, V3.zero])]
theorem IsTruth_ok {v : Ev} (h : EV4 v) (ls : List (List Int)) : RV ft 18 [encE v, encIss ls] (.bool (isTrB v ls)) := by
  have hk3 := h.k3
  have hsl := h.sl
  have hn4 := h.n4
  unfold isTrB
  refine RV_of ft18 rfl ?_
  simp only [c18, r18]
  cases hlen : ((ls.length : Int) != v.cs.length)
  rotate_left
  · simp only [go_sem, Nat.reduceEqDiff, Nat.reduceAdd, Nat.reduceLT, Nat.reduceLeDiff, reduceIte, hlen]
    have hne : ls.length ≠ v.cs.length := by
      have := bne_iff_ne.1 hlen; omega
    have tl : ∀ (cs : List Ctr) (ls : List (List Int)) (all : List Int), ls.length ≠ cs.length → trB v.pr.length v.se cs ls all = false := by
      intro cs
      induction cs with
      | nil => intro ls all h; cases ls with | nil => exact absurd rfl h | cons _ _ => rfl
      | cons c cs ih =>
        intro ls all h
        cases ls with
        | nil => rfl
        | cons l ls => simp only [trB]; rw [ih ls _ (by simpa using h), Bool.and_false]
    rw [tl _ _ _ hne]
  have hlen2 : ls.length = v.cs.length := by
    have : ((ls.length : Int) == v.cs.length) = true := by simpa [bne] using hlen
    have := beq_iff_eq.1 this; omega
  have hmk := fun m => make_ok m v.pr.length (by omega)
  simp only [go_sem, Nat.reduceEqDiff, Nat.reduceAdd, Nat.reduceLT, Nat.reduceLeDiff, reduceIte, hlen, hsl, hmk]
  refine WL_inv (α := Nat × List (List Int) × List Ctr × List Int) (fun q e mm => e 1 = encIss ls ∧ e 2 = .ptr 0 0 0 ∧ e 5 = .ref 1 0 v.pr.length ∧ e 6 = I64 q.1 ∧ ls.drop q.1 = q.2.1 ∧ v.cs.drop q.1 = q.2.2.1 ∧ q.2.2.2.length = v.pr.length ∧ (∀ x ∈ q.2.2.2, 0 ≤ x ∧ x ≤ 20 * (q.1 : Int)) ∧
    trB v.pr.length v.se q.2.2.1 q.2.1 q.2.2.2 = trB v.pr.length v.se v.cs ls (zeros v.pr.length) ∧ mm = ⟨[.live [encE v] 4, .live (q.2.2.2.map I64) 1], []⟩) (fun q => q.2.1.length) (0, ls, v.cs, zeros v.pr.length) ?_ ?_
  · simp only [go_sem, Nat.reduceEqDiff, Nat.reduceAdd, Nat.reduceLT, Nat.reduceLeDiff, reduceIte]
    ((repeat' apply And.intro) <;> first | trivial | rfl | assumption | omega | (simp [zeros]) | (exact fun x hx => by (unfold zeros at hx; have := List.eq_of_mem_replicate hx; omega)))
  rintro ⟨k, r, cs, A⟩ e m ⟨g1, g2, g5, g6, hd, hdc, hA, hAb, hq, rfl⟩
  dsimp only at g6 hd hdc hA hAb hq
  cases r with
  | nil =>
    have h3 := drop_nil hd
    have hcn : cs = [] := by rw [← hdc]; exact List.drop_eq_nil_of_le (by omega)
    subst hcn
    have hel : Mem.elems ⟨[.live [encE v] 4, .live (A.map I64) 1], []⟩ (.ref 1 0 v.pr.length) = some (A.map I64) := by
      simp only [Mem.elems, List.getElem?_cons_succ, List.getElem?_cons_zero]
      rw [if_pos (by rw [List.length_map]; omega), List.drop_zero, List.take_of_length_le (by rw [List.length_map]; omega)]
    have hsn : snap ⟨[.live [encE v] 4, .live (A.map I64) 1], []⟩ 12 (.ref 1 0 v.pr.length) = encIs A := by
      simp only [snap, hel]
      rw [List.map_map]; rfl
    have hsm := sameR_ok A v.se (by omega) (by omega)
    simp only [go_sem, Nat.reduceEqDiff, Nat.reduceAdd, Nat.reduceLT, Nat.reduceLeDiff, reduceIte, g1, g2, g5, g6, dec_ge h3, WB56, hsn, WVH_eq hsm, true_and]
    rw [← hq]; rfl
  | cons l r =>
    obtain ⟨hk, hd2, hlt⟩ := drop_cons hd
    obtain ⟨c, cs', rfl⟩ : ∃ c cs', cs = c :: cs' := by
      cases cs with
      | nil => have := drop_nil hdc; omega
      | cons c cs' => exact ⟨c, cs', rfl⟩
    obtain ⟨hkc, hdc2, _⟩ := drop_cons hdc
    have hco := h.cs c (List.mem_of_getElem? hkc)
    simp only [trB] at hq
    have hsl' : ((l.length : Int) != v.se.length) = !decide ((l.length : Int) = v.pr.length) := by rw [hsl]; rfl
    cases q1 : decide ((l.length : Int) = v.pr.length)
    · rw [q1] at hsl' hq
      simp only [Bool.false_and] at hq
      simp only [go_sem, Nat.reduceEqDiff, Nat.reduceAdd, Nat.reduceLT, Nat.reduceLeDiff, reduceIte, g1, g2, g5, g6, dec_lt hlt, Iss_idx hk, hsl', Bool.not_false]
      rw [← hq]
    rw [q1] at hsl' hq
    have hle : l.length = v.pr.length := by have := of_decide_eq_true q1; omega
    have hl2 : l.length < 1073741824 := by omega
    cases q2 : allR l 0 20
    · rw [q2] at hq
      simp only [Bool.false_and, Bool.and_false] at hq
      simp only [go_sem, Nat.reduceEqDiff, Nat.reduceAdd, Nat.reduceLT, Nat.reduceLeDiff, reduceIte, g1, g2, g5, g6, dec_lt hlt, Iss_idx hk, hsl', Bool.not_true, Bool.not_false, WB54, WVH_eq (areAll_ok l 0 20 hl2), true_and, q2]
      rw [← hq]
    rw [q2] at hq
    have hlb := allR_iff.1 q2
    have hsum := sum_ok l (by omega) (fun x hx => by have := hlb x hx; omega)
    have hrl := Roll_ok hco.s
    cases q3 : decide (l.sum = roll c)
    · rw [q3] at hq
      simp only [Bool.false_and, Bool.and_false] at hq
      have q3' : (l.sum != roll c) = true := by rw [bne_iff_ne]; exact of_decide_eq_false q3
      simp only [go_sem, Nat.reduceEqDiff, Nat.reduceAdd, Nat.reduceLT, Nat.reduceLeDiff, reduceIte, g1, g2, g5, g6, dec_lt hlt, Iss_idx hk, hsl', Bool.not_true, Bool.not_false, WB54, WVH_eq (areAll_ok l 0 20 hl2), true_and, q2, WB55, WVH_eq hsum, Cs_idx hkc, WB26, WVH_eq hrl, q3']
      rw [← hq]
    rw [q3] at hq
    simp only [Bool.and_self, Bool.true_and] at hq
    have q3' : (l.sum != roll c) = false := by
      have := of_decide_eq_true q3
      rw [this]; simp
    simp only [go_sem, Nat.reduceEqDiff, Nat.reduceAdd, Nat.reduceLT, Nat.reduceLeDiff, reduceIte, g1, g2, g5, g6, dec_lt hlt, Iss_idx hk, hsl', Bool.not_true, Bool.not_false, WB54, WVH_eq (areAll_ok l 0 20 hl2), true_and, q2, WB55, WVH_eq hsum, Cs_idx hkc, WB26, WVH_eq hrl, q3']
    have hAl : A.length = l.length := by omega
    refine WL_inv (α := Nat) (fun q e mm => e 1 = encIss ls ∧ e 2 = .ptr 0 0 0 ∧ e 5 = .ref 1 0 v.pr.length ∧ e 6 = I64 k ∧ e 7 = I64 q ∧ q ≤ A.length ∧ mm = ⟨[.live [encE v] 4, .live ((mixL A l q).map I64) 1], []⟩) (fun q => A.length - q) 0 ?_ ?_
    · simp only [go_sem, Nat.reduceEqDiff, Nat.reduceAdd, Nat.reduceLT, Nat.reduceLeDiff, reduceIte, g1, g2, g5, g6, mixL_0]
      ((repeat' apply And.intro) <;> first | trivial | rfl | assumption | omega | (exact Nat.zero_le _))
    clear g1 g2 g5 g6
    rintro s e m ⟨g1, g2, g5, g6, g7, hsA, rfl⟩
    have hml := mixL_len hAl hsA
    by_cases hs : s < v.pr.length
    rotate_left
    · have : s = A.length := by omega
      subst this
      rw [mixL_all hAl] at *
      simp only [go_sem, Nat.reduceEqDiff, Nat.reduceAdd, Nat.reduceLT, Nat.reduceLeDiff, reduceIte, g1, g2, g5, g6, g7, dec_ge (show v.pr.length ≤ A.length by omega), wrap_n1 k (by omega)]
      refine Nx_of (k + 1, r, cs', addL A l) (by simp) ?_
      simp only [go_sem, Nat.reduceEqDiff, Nat.reduceAdd, Nat.reduceLT, Nat.reduceLeDiff, reduceIte, g1, g2, g5]
      refine ⟨trivial, trivial, trivial, trivial, hd2, hdc2, by rw [addL_len hAl]; exact hA, fun x hx => ?_, hq, by trivial⟩
      unfold addL at hx
      obtain ⟨i, hi⟩ := List.mem_iff_getElem?.1 hx
      rw [List.getElem?_zipWith] at hi
      cases ha : A[i]? with
      | none => rw [ha] at hi; cases hi
      | some a =>
        cases hb : l[i]? with
        | none => rw [ha, hb] at hi; cases hi
        | some b =>
          rw [ha, hb] at hi
          cases hi
          have h1 := hAb a (List.mem_of_getElem? ha)
          have h2 := hlb b (List.mem_of_getElem? hb)
          simp only [Int.natCast_add]
          omega
    · have ha : A[s]? = some A[s] := List.getElem?_eq_getElem (by omega)
      have hb : l[s]? = some l[s] := List.getElem?_eq_getElem (by omega)
      have h1 := hAb _ (List.mem_of_getElem? ha)
      have h2 := hlb _ (List.mem_of_getElem? hb)
      have hg : (mixL A l s)[s]? = some A[s] := by rw [mixL_get hAl hsA]; exact ha
      have hset := mixL_set hAl ha hb
      have f1 : idxAt ⟨[.live [encE v] 4, .live ((mixL A l s).map I64) 1], []⟩ (.ref 1 0 v.pr.length) (I64 (s : Int)) 1 = some (.ptr 1 s 0) := idx_own (es := (mixL A l s).map I64) rfl hs
      have f2 : loadAt ⟨[.live [encE v] 4, .live ((mixL A l s).map I64) 1], []⟩ (.ptr 1 s 0) none = some (I64 A[s]) := load_own (es := (mixL A l s).map I64) rfl (by rw [List.getElem?_map, hg]; rfl) rfl
      have f3 : ∀ x, storeAt ⟨[.live [encE v] 4, .live ((mixL A l s).map I64) 1], []⟩ (.ptr 1 s 0) (I64 x) 1 = some ⟨[.live [encE v] 4, .live (((mixL A l s).map I64).set s (I64 x)) 1], []⟩ := fun x => store_own (es := (mixL A l s).map I64) (y := A[s]) rfl (by rw [List.getElem?_map, hg]; rfl)
      have f4 : ((mixL A l s).map I64).set s (I64 (A[s] + l[s])) = (mixL A l (s + 1)).map I64 := by rw [← List.map_set, hset]
      simp only [go_sem, Nat.reduceEqDiff, Nat.reduceAdd, Nat.reduceLT, Nat.reduceLeDiff, reduceIte, g1, g2, g5, g6, g7, dec_lt hs, f1, f2, f3, f4, Iss_idx hk, Is_idx hb, wrap_i64 (A[s] + l[s]) (by omega) (by omega), wrap_n1 s (by omega)]
      refine Nx_of (s + 1) (by show A.length - (s + 1) < A.length - s; omega) ?_
      simp only [go_sem, Nat.reduceEqDiff, Nat.reduceAdd, Nat.reduceLT, Nat.reduceLeDiff, reduceIte, g1, g2, g5, g6]
      ((repeat' apply And.intro) <;> first | trivial | rfl | assumption | omega | (exact (show s + 1 ≤ A.length by omega)))
end Go.Ab.T
end

section
namespace Go.Ab.T
set_option maxRecDepth 8000
set_option maxHeartbeats 4000000
/-- Tickets for each show, of a till. -/
structure TL (v : Ev) (l : List Int) : Prop where
  len : l.length = v.pr.length
  bd : ∀ x ∈ l, 0 ≤ x ∧ x ≤ 20
def dueL (v : Ev) (c : Ctr) (l : List Int) : Int := c.fl + (toV l).dot (toV v.pr)
theorem Due_ok {v : Ev} (h : EV4 v) {i : Nat} {c : Ctr} (hc : v.cs[i]? = some c) {l : List Int} (hl : TL v l) : RV ft 25 [encE v, I64 (i : Int), encIs l] (I64 (dueL v c l)) := by
  have hk3 := h.k3
  have hlen := hl.len
  have hfl := (h.cs c (List.mem_of_getElem? hc)).fl
  have hdue : dueL v c l = c.fl + dotL l v.pr := by unfold dueL; rw [dotL_eq hlen (by omega)]
  rw [hdue]
  refine RV_of ft25 rfl ?_
  simp only [c25, r25]
  simp only [go_sem, Nat.reduceEqDiff, Nat.reduceAdd, Nat.reduceLT, Nat.reduceLeDiff, reduceIte, Cs_idx hc]
  refine WL_inv (α := Nat × List Int × List Int × Int) (fun q e mm => e 2 = encIs l ∧ e 3 = .ptr 0 0 0 ∧ e 7 = I64 q.2.2.2 ∧ e 8 = I64 q.1 ∧ l.drop q.1 = q.2.1 ∧ v.pr.drop q.1 = q.2.2.1 ∧ q.2.2.2 + dotL q.2.1 q.2.2.1 = c.fl + dotL l v.pr ∧ (0 ≤ q.2.2.2 ∧ q.2.2.2 ≤ 9999 + 1000 * (q.1 : Int)) ∧ mm = ⟨[.live [encE v] 4], []⟩) (fun q => q.2.1.length) (0, l, v.pr, c.fl) ?_ ?_
  · simp only [go_sem, Nat.reduceEqDiff, Nat.reduceAdd, Nat.reduceLT, Nat.reduceLeDiff, reduceIte]
    ((repeat' apply And.intro) <;> first | trivial | rfl | assumption | omega)
  rintro ⟨k, r, q, n⟩ e m ⟨g2, g3, g7, g8, hd, hd', hq, hn, rfl⟩
  dsimp only at g7 g8 hd hd' hq hn
  cases r with
  | nil =>
    have h3 := drop_nil hd
    simp only [go_sem, Nat.reduceEqDiff, Nat.reduceAdd, Nat.reduceLT, Nat.reduceLeDiff, reduceIte, g2, g3, g7, g8, dec_ge h3]
    rw [← hq]; simp [dotL]
  | cons x r =>
    obtain ⟨hk, hd2, hlt⟩ := drop_cons hd
    obtain ⟨y, q', rfl⟩ : ∃ y q', q = y :: q' := by
      cases q with
      | nil => have := drop_nil hd'; omega
      | cons y q' => exact ⟨y, q', rfl⟩
    obtain ⟨hk', hd2', _⟩ := drop_cons hd'
    have hx := hl.bd x (List.mem_of_getElem? hk)
    have hy := h.pr y (List.mem_of_getElem? hk')
    have m1 : x * y ≤ 20 * y := Int.mul_le_mul_of_nonneg_right hx.2 (by omega)
    have m2 : 0 ≤ x * y := Int.mul_nonneg hx.1 (by omega)
    simp only [go_sem, Nat.reduceEqDiff, Nat.reduceAdd, Nat.reduceLT, Nat.reduceLeDiff, reduceIte, g2, g3, g7, g8, dec_lt hlt, Is_idx hk, Is_idx hk', wrap_i64 (x * y) (by omega) (by omega), wrap_i64 (n + x * y) (by omega) (by omega), wrap_n1 k (by omega)]
    refine Nx_of (k + 1, r, q', n + x * y) (by simp) ?_
    simp only [go_sem, Nat.reduceEqDiff, Nat.reduceAdd, Nat.reduceLT, Nat.reduceLeDiff, reduceIte, g2, g3]
    simp only [dotL] at hq
    ((repeat' apply And.intro) <;> first | trivial | rfl | assumption | omega | (exact hd2) | (exact hd2') | ((simp only [Int.natCast_add]; omega)))
theorem keys_eq {v : Ev} (h : EV4 v) {c : Ctr} (hc : CO v.pr.length c) {l : List Int} (hl : TL v l) : decide (l = c.so) = decide (toV l = toV c.so) := by
  have hk3 := h.k3
  have h1 := hl.len
  have h2 := hc.len
  rw [Bool.eq_iff_iff, decide_eq_true_eq, decide_eq_true_eq]
  exact ⟨fun e => by rw [e], fun e => toV_inj (by omega) (by omega) e⟩
theorem Keys_ok {v : Ev} (h : EV4 v) {i : Nat} {c : Ctr} (hc : v.cs[i]? = some c) {l : List Int} (hl : TL v l) : RV ft 59 [encE v, I64 (i : Int), encIs l] (.bool (!decide (toV l = toV c.so))) := by
  have hk3 := h.k3
  have h1 := hl.len
  have hco := h.cs c (List.mem_of_getElem? hc)
  have h2 := hco.len
  refine RV_of ft59 rfl ?_
  simp only [c59, r59]
  simp only [go_sem, Nat.reduceEqDiff, Nat.reduceAdd, Nat.reduceLT, Nat.reduceLeDiff, reduceIte, Cs_idx hc, WB56, WVH_eq (sameR_ok l c.so (by omega) (by omega)), true_and, keys_eq h hco hl]
theorem Money_ok {v : Ev} (h : EV4 v) {i : Nat} {c : Ctr} (hc : v.cs[i]? = some c) {l : List Int} (hl : TL v l) : RV ft 60 [encE v, I64 (i : Int), encIs l] (.bool (!decide (miss (toV v.pr) c (toV l) = 0))) := by
  refine RV_of ft60 rfl ?_
  simp only [c60, r60]
  have hb : ((dueL v c l) != c.ca) = !decide (miss (toV v.pr) c (toV l) = 0) := by
    rw [Bool.eq_iff_iff, bne_iff_ne, Bool.not_eq_true', decide_eq_false_iff_not]
    unfold dueL miss
    omega
  simp only [go_sem, Nat.reduceEqDiff, Nat.reduceAdd, Nat.reduceLT, Nat.reduceLeDiff, reduceIte, Cs_idx hc, WB25, WVH_eq (Due_ok h hc hl), true_and, hb]
theorem Flaws_ok {v : Ev} (h : EV4 v) {i : Nat} {c : Ctr} (hc : v.cs[i]? = some c) {l : List Int} (hl : TL v l) : RV ft 22 [encE v, I64 (i : Int), encIs l] (I64 (flw (toV v.pr) c (toV l))) := by
  refine RV_of ft22 rfl ?_
  simp only [c22, r22]
  have x1 : IntKind.i64.wrap (0 + 1) = 1 := by decide
  have x2 : IntKind.i64.wrap (1 + 1) = 2 := by decide
  unfold flw
  cases q1 : decide (toV l = toV c.so) <;> cases q2 : decide (miss (toV v.pr) c (toV l) = 0)
  all_goals
    first | rw [if_pos (of_decide_eq_true q1)] | rw [if_neg (of_decide_eq_false q1)]
    first | rw [if_pos (of_decide_eq_true q2)] | rw [if_neg (of_decide_eq_false q2)]
    simp only [go_sem, Nat.reduceEqDiff, Nat.reduceAdd, Nat.reduceLT, Nat.reduceLeDiff, reduceIte, WB59, WVH_eq (Keys_ok h hc hl), true_and, WB60, WVH_eq (Money_ok h hc hl), q1, q2, Bool.not_true, Bool.not_false, x1, x2]
    try rfl
theorem TL.of_tr {v : Ev} (h : EV4 v) {ls : List (List Int)} (ht : TrL v ls) : ∀ l ∈ ls, TL v l := by
  intro l hl
  have hk3 := h.k3
  have hlen := ht.1 l hl
  obtain ⟨i, hi⟩ := List.mem_iff_getElem?.1 hl
  have hi2 : (ls.map toV)[i]? = some (toV l) := by rw [List.getElem?_map, hi]; rfl
  have hil : i < v.cs.length := by
    have := IsT_len ht.2
    rw [List.length_map] at this
    have := (List.getElem?_eq_some_iff.1 hi).1
    omega
  have hc : v.cs[i]? = some v.cs[i] := List.getElem?_eq_getElem hil
  obtain ⟨t, h1, h2, _⟩ := IsT_erase hc ht.2
  rw [hi2] at h1; cases h1
  have hro := (h.cs _ (List.mem_of_getElem? hc)).ro
  exact ⟨hlen, fun x hx => by have := nn_mem (by omega) h2.1 x hx; omega⟩
theorem All_ok {v : Ev} (h : EV4 v) {ls : List (List Int)} (ht : TrL v ls) : RV ft 20 [encE v, encIss ls] (I64 (flT (toV v.pr) v.cs (ls.map toV))) := by
  have hlen : ls.length = v.cs.length := by have := IsT_len ht.2; rwa [List.length_map] at this
  have hn4 := h.n4
  refine RV_of ft20 rfl ?_
  simp only [c20, r20]
  simp only [go_sem, Nat.reduceEqDiff, Nat.reduceAdd, Nat.reduceLT, Nat.reduceLeDiff, reduceIte]
  refine WL_inv (α := Nat × List (List Int) × List Ctr × Int) (fun q e mm => e 1 = encIss ls ∧ e 2 = .ptr 0 0 0 ∧ e 5 = I64 q.2.2.2 ∧ e 6 = I64 q.1 ∧ ls.drop q.1 = q.2.1 ∧ v.cs.drop q.1 = q.2.2.1 ∧ q.2.2.2 + flT (toV v.pr) q.2.2.1 (q.2.1.map toV) = flT (toV v.pr) v.cs (ls.map toV) ∧ (0 ≤ q.2.2.2 ∧ q.2.2.2 ≤ 2 * (q.1 : Int)) ∧ mm = ⟨[.live [encE v] 4], []⟩) (fun q => q.2.1.length) (0, ls, v.cs, 0) ?_ ?_
  · simp only [go_sem, Nat.reduceEqDiff, Nat.reduceAdd, Nat.reduceLT, Nat.reduceLeDiff, reduceIte]
    ((repeat' apply And.intro) <;> first | trivial | rfl | assumption | omega | (exact Int.zero_add _))
  rintro ⟨k, r, cs, n⟩ e m ⟨g1, g2, g5, g6, hd, hdc, hq, hn, rfl⟩
  dsimp only at g5 g6 hd hdc hq hn
  cases r with
  | nil =>
    have h3 := drop_nil hd
    have : cs = [] := by rw [← hdc]; exact List.drop_eq_nil_of_le (by omega)
    subst this
    simp only [go_sem, Nat.reduceEqDiff, Nat.reduceAdd, Nat.reduceLT, Nat.reduceLeDiff, reduceIte, g1, g2, g5, g6, dec_ge h3]
    rw [← hq]; simp [flT]
  | cons l r =>
    obtain ⟨hk, hd2, hlt⟩ := drop_cons hd
    obtain ⟨c, cs', rfl⟩ : ∃ c cs', cs = c :: cs' := by
      cases cs with
      | nil => have := drop_nil hdc; omega
      | cons c cs' => exact ⟨c, cs', rfl⟩
    obtain ⟨hkc, hdc2, _⟩ := drop_cons hdc
    have hf := flw_bd (toV v.pr) c (toV l)
    simp only [go_sem, Nat.reduceEqDiff, Nat.reduceAdd, Nat.reduceLT, Nat.reduceLeDiff, reduceIte, g1, g2, g5, g6, dec_lt hlt, Iss_idx hk, WB22, WVH_eq (Flaws_ok h hkc (TL.of_tr h ht l (List.mem_of_getElem? hk))), true_and, wrap_i64 (n + flw (toV v.pr) c (toV l)) (by omega) (by omega), wrap_n1 k (by omega)]
    refine Nx_of (k + 1, r, cs', n + flw (toV v.pr) c (toV l)) (by simp) ?_
    simp only [go_sem, Nat.reduceEqDiff, Nat.reduceAdd, Nat.reduceLT, Nat.reduceLeDiff, reduceIte, g1, g2]
    simp only [List.map_cons, flT] at hq
    ((repeat' apply And.intro) <;> first | trivial | rfl | assumption | omega | (exact hd2) | (exact hdc2) | ((simp only [Int.natCast_add]; omega)))
end Go.Ab.T
end

section
namespace Go.Ab.T
set_option maxRecDepth 100000
def ev0 : Ev := ⟨[5, 8], [7, 6], [7, 5], [⟨[4, 2], 100, 106, 0, 10, 46⟩, ⟨[3, 3], 200, 208, 1, 0, 47⟩]⟩
theorem exam_run : callV (run2 ft 400) 43 [] = some (encE ev0) := by kernel_rfl
theorem part0_run : callV (run2 ft 400) 14 [encE ev0] = some (.tup [I64 1, I64 1, I64 0]) := by kernel_rfl
theorem lik0_run : (likV ev0 0).2 = 1 := by kernel_rfl
theorem tm0_run : tillsM sP ev0 = [1] := by kernel_rfl
theorem bnd0_run : bnd (fun c => c.t.at 1) (likV ev0 1).1 = (4, 4) := by kernel_rfl
theorem err0_run : errT ev0 0 0 = 0 := by kernel_rfl
theorem err1_run : errT ev0 1 1 = 0 := by kernel_rfl
theorem far0_run : farB ev0 = false := by kernel_rfl
theorem works_ok : RV ft 13 [] (.bool true) := by
  have hS := SE.of_far far0_run
  have hF : RV ft 15 [encE ev0] (.tup [I64 1, I64 0]) := by have := Fewest_ok hS; rwa [if_pos err0_run, err0_run, lik0_run] at this
  have hP : RV ft 17 [encE ev0] (.tup [encIs [1], I64 0]) := by have := Suspects_ok hS; unfold tillR at this; rwa [if_pos err0_run, err0_run, tm0_run] at this
  have hR : RV ft 16 [encE ev0, I64 1, I64 1] (.tup [encS 4 4, I64 0]) := by
    have := Really_ok hS 1 1
    unfold bndR at this
    rw [if_pos err1_run, err1_run, show (1 : Int).toNat = 1 from rfl, bnd0_run] at this
    exact this
  have sC : ∀ a b : Int, (encS a b).cells = [I64 a, I64 b] := fun _ _ => rfl
  have sA : ∀ a b : Int, (encS a b).isAgg = true := fun _ _ => rfl
  have sE : ∀ a b : Int, AV.agg [I64 a, I64 b] = encS a b := fun _ _ => rfl
  have sw : ∀ a b c d : Int, writeCells (encS a b) 0 [I64 c, I64 d] = some (encS c d) := fun _ _ _ _ => rfl
  have hE : eqAV true [.i, .i] (encS 4 4) (encS 4 4) = some true := rfl
  have hI : RV ft 35 [encIs [1], .sl [AV.int .i64 1] .unk] (.bool true) := sameInts_ok [1] [1] (by decide)
  refine RV_of ft13 rfl ?_
  simp only [c13, r13]
  simp only [go_sem, Nat.reduceEqDiff, Nat.reduceAdd, Nat.reduceLT, Nat.reduceLeDiff, reduceIte, WB43, WVH_eq (RV_of_run2 400 exam_run), true_and, ECells, EEta, WB14, WVH_eq (RV_of_run2 400 part0_run), WB15, WVH_eq hF, WB17, WVH_eq hP, WB16, WVH_eq hR, sC, sA, sE, sw, hE, WB35, WVH_eq hI, Bool.false_eq_true, Bool.not_false]
end Go.Ab.T
end
