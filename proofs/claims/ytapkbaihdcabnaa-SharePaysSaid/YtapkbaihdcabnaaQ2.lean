/-
  A part of the proofs over this seat.
  (The texts KsM6 KsK18 KsK19, one behind the other.)
-/
import Derived.Test.YtapkbaihdcabnaaP5
import Derived.Test.YtapkbaihdcabnaaP4
import Derived.Test.YtapkbaihdcabnaaQ1
set_option linter.unusedSimpArgs false
set_option linter.unusedVariables false
set_option linter.unusedSectionVars false
section
namespace Go.Ab.T
/-! ### What is paid -/
def paidG (f : Int) (a : Int) (l : List Py) : Int := l.foldl (fun a p => if (p.film == f) = true then a + p.cents else a) a
def paidS (f : Int) (l : List Py) : Int := paidG f 0 l
theorem paidG_cons (f a : Int) (p : Py) (l : List Py) : paidG f a (p :: l) = paidG f (if (p.film == f) = true then a + p.cents else a) l := rfl
theorem paidG_add (f : Int) : ∀ (l : List Py) (a x : Int), paidG f (a + x) l = paidG f a l + x
  | [], a, x => rfl
  | p :: l, a, x => by
    rw [paidG_cons, paidG_cons, ← paidG_add f l]
    congr 1
    split <;> omega
theorem paidS_cons (f : Int) (p : Py) (l : List Py) : paidS f (p :: l) = paidS f l + if (p.film == f) = true then p.cents else 0 := by
  unfold paidS
  rw [paidG_cons, ← paidG_add]
  congr 1
  split <;> omega
theorem paidS_app (f : Int) : ∀ (l r : List Py), paidS f (l ++ r) = paidS f l + paidS f r
  | [], r => by show paidS f r = 0 + paidS f r; omega
  | p :: l, r => by rw [List.cons_append, paidS_cons, paidS_cons, paidS_app f l r]; omega
/-- What is left, payment by payment. -/
def leftG (f : Int) (a : Int) (l : List Py) : Int := l.foldl (fun a p => if (p.film == f) = true then a - p.cents else a) a
theorem leftG_cons (f a : Int) (p : Py) (l : List Py) : leftG f a (p :: l) = leftG f (if (p.film == f) = true then a - p.cents else a) l := rfl
theorem leftG_eq (f : Int) : ∀ (l : List Py) (a : Int), leftG f a l = a - paidS f l
  | [], a => by show a = a - 0; omega
  | p :: l, a => by
    rw [leftG_cons, leftG_eq f l, paidS_cons]
    split <;> omega
def pyOK (cs : List Ct) (p : Py) : Bool := (findC p.film cs).isSome && inR p.cents 0 1000000000
def psOK (cs : List Ct) (l : List Py) : Bool := decide ((l.length : Int) ≤ 100) && l.all (pyOK cs)
structure PB (l : List Py) : Prop where
  len : l.length ≤ 100
  c : ∀ p ∈ l, 0 ≤ p.cents ∧ p.cents ≤ 1000000000
theorem psOK_PB {cs : List Ct} {l : List Py} (h : psOK cs l = true) : PB l := by
  unfold psOK at h
  simp only [Bool.and_eq_true, decide_eq_true_eq, List.all_eq_true, pyOK, inR_iff] at h
  exact ⟨by omega, fun p hp => (h.2 p hp).2⟩
theorem paidS_bound (f : Int) : ∀ {l : List Py}, (∀ p ∈ l, 0 ≤ p.cents ∧ p.cents ≤ 1000000000) → 0 ≤ paidS f l ∧ paidS f l ≤ l.length * 1000000000
  | [], _ => ⟨Int.le_refl _, by show (0 : Int) ≤ _; simp⟩
  | p :: l, h => by
    have h1 := paidS_bound f fun q hq => h q (List.mem_cons_of_mem _ hq)
    have h2 := h p (by simp)
    rw [paidS_cons, List.length_cons]
    split <;> omega
theorem PB.s {l : List Py} (h : PB l) (f : Int) : 0 ≤ paidS f l ∧ paidS f l ≤ 100000000000 := by
  have h1 := paidS_bound f h.c
  have h2 := h.len
  omega
theorem leftG_bound (f : Int) : ∀ {l : List Py} {a : Int}, (∀ p ∈ l, 0 ≤ p.cents ∧ p.cents ≤ 1000000000) → a - l.length * 1000000000 ≤ leftG f a l ∧ leftG f a l ≤ a := fun {l} {a} h => by
  have := paidS_bound f h
  rw [leftG_eq]; omega
/-! ### In the order of the films -/
def lftM (b : Bk) (w : Int) (l : List Py) (c : Ct) : Int := dueM b c w - paidS c.film l
def payC (b : Bk) (w : Int) (l : List Py) (c : Ct) : List Py := if 0 < lftM b w l c then [⟨c.film, lftM b w l c⟩] else []
def ovrC (b : Bk) (w : Int) (l : List Py) (c : Ct) : List Py := if lftM b w l c < 0 then [⟨c.film, -lftM b w l c⟩] else []
def ordG (cs : List Ct) (h : Ct → List Py) : Nat → Int → List Py
  | 0, _ => []
  | k + 1, f => (match findC f cs with | none => [] | some c => h c) ++ ordG cs h k (f + 1)
def payL (b : Bk) (w : Int) (l : List Py) : List Py := ordG b.cs (payC b w l) 100 0
def ovrL (b : Bk) (w : Int) (l : List Py) : List Py := ordG b.cs (ovrC b w l) 100 0
theorem findC_none : ∀ {l : List Ct} {f : Int}, findC f l = none ↔ ∀ c ∈ l, c.film ≠ f
  | [], f => ⟨fun _ c h => (by cases h), fun _ => rfl⟩
  | c :: l, f => by
    show (if (c.film == f) = true then some c else findC f l) = none ↔ _
    by_cases h : c.film = f
    · rw [if_pos (by simpa using h)]
      exact ⟨fun h => (by cases h), fun h2 => absurd h (h2 c (by simp))⟩
    · rw [if_neg (by simpa using h), findC_none]
      constructor
      · intro h2 x hx
        rcases List.mem_cons.1 hx with rfl | hx
        · exact h
        · exact h2 x hx
      · exact fun h2 x hx => h2 x (by simp [hx])
theorem onceF_out : ∀ (l p : List Ct), onceF p l = true → (∀ x ∈ l, ∀ y ∈ p, y.film ≠ x.film) ∧ l.Pairwise fun a b => a.film ≠ b.film
  | [], p, _ => ⟨fun x hx => (by cases hx), .nil⟩
  | c :: l, p, h => by
    have h : ((findC c.film p).isNone && onceF (p ++ [c]) l) = true := h
    rw [Bool.and_eq_true] at h
    have h1 := findC_none.1 (Option.isNone_iff_eq_none.1 h.1)
    have h2 := onceF_out l (p ++ [c]) h.2
    refine ⟨fun x hx y hy => ?_, List.pairwise_cons.2 ⟨fun x hx => h2.1 x hx c (by simp), h2.2⟩⟩
    rcases List.mem_cons.1 hx with rfl | hx
    · exact h1 y hy
    · exact h2.1 x hx y (by simp [hy])
theorem BV.dist {b : Bk} (hb : BV b) : b.cs.Pairwise fun a b => a.film ≠ b.film := (onceF_out b.cs [] hb.co).2
theorem findC_perm {cs S : List Ct} (hp : S.Perm cs) (hn : cs.Pairwise fun a b => a.film ≠ b.film) (f : Int) : findC f cs = findC f S := by
  have hnS : S.Pairwise fun a b => a.film ≠ b.film := hp.symm.pairwise hn fun h => Ne.symm h
  have uniq : ∀ {l : List Ct}, l.Pairwise (fun a b => a.film ≠ b.film) → ∀ a ∈ l, ∀ b ∈ l, a.film = b.film → a = b := by
    intro l hl
    induction hl with
    | nil => intro a ha; cases ha
    | cons h _ ih =>
      intro a ha b hb e
      rcases List.mem_cons.1 ha with ha' | ha' <;> rcases List.mem_cons.1 hb with hb' | hb'
      · rw [ha', hb']
      · subst ha'; exact absurd e (h b hb')
      · subst hb'; exact absurd e.symm (h a ha')
      · exact ih a ha' b hb' e
  cases h1 : findC f cs with
  | none =>
    symm
    rw [findC_none] at h1 ⊢
    exact fun c hc => h1 c (hp.mem_iff.1 hc)
  | some c =>
    have h2 := findC_mem h1
    cases h3 : findC f S with
    | none => exact absurd h2.2 (findC_none.1 h3 c (hp.mem_iff.2 h2.1))
    | some d =>
      have h4 := findC_mem h3
      rw [uniq hn c h2.1 d (hp.mem_iff.1 h4.1) (by rw [h2.2, h4.2])]
theorem ord_nil (cs : List Ct) (h : Ct → List Py) : ∀ (k : Nat) (f : Int), (∀ g, f ≤ g → findC g cs = none) → ordG cs h k f = []
  | 0, f, _ => rfl
  | k + 1, f, hg => by
    unfold ordG
    rw [hg f (Int.le_refl _), ord_nil cs h k (f + 1) fun g h => hg g (by omega)]; rfl
theorem ord_flat (cs : List Ct) (h : Ct → List Py) : ∀ (k : Nat) (f : Int) (S : List Ct), S.Pairwise (fun a b => a.film < b.film) → (∀ c ∈ S, f ≤ c.film ∧ c.film < f + k) → (∀ g, f ≤ g → findC g cs = findC g S) → ordG cs h k f = S.flatMap h
  | 0, f, S, h1, h2, h3 => by
    cases S with
    | nil => rfl
    | cons c S => have := h2 c (by simp); simp at this; omega
  | k + 1, f, [], h1, h2, h3 => by
    rw [ord_nil cs h (k + 1) f fun g hg => by rw [h3 g hg]; rfl]; rfl
  | k + 1, f, c :: S, h1, h2, h3 => by
    rw [List.pairwise_cons] at h1
    have hc := h2 c (by simp)
    unfold ordG
    rw [h3 f (Int.le_refl _)]
    by_cases e : c.film = f
    · have e1 : findC f (c :: S) = some c := if_pos (by simpa using e)
      rw [e1, ord_flat cs h k (f + 1) S h1.2 (fun d hd => by have := h2 d (by simp [hd]); have := h1.1 d hd; omega) fun g hg => by
        rw [h3 g (by omega)]
        exact if_neg (by simp; omega)]
      rfl
    · have e1 : findC f (c :: S) = none := findC_none.2 fun d hd => by
        rcases List.mem_cons.1 hd with rfl | hd
        · exact e
        · have := h1.1 d hd; omega
      rw [e1, ord_flat cs h k (f + 1) (c :: S) (List.pairwise_cons.2 h1) (fun d hd => by
        have := h2 d hd
        rcases List.mem_cons.1 hd with rfl | hd
        · omega
        · have := h1.1 d hd; omega) fun g hg => h3 g (by omega)]
      rfl
/-- Film by film, or contract by contract when these are sorted. -/
theorem ord_sorted {b : Bk} (hb : BV b) {S : List Ct} (hp : S.Perm b.cs) (hs : S.Pairwise fun a b => a.film ≤ b.film) (h : Ct → List Py) : ordG b.cs h 100 0 = S.flatMap h := by
  have hn := hb.dist
  have hnS : S.Pairwise fun a b => a.film ≠ b.film := hp.symm.pairwise hn fun h => Ne.symm h
  refine ord_flat b.cs h 100 0 S ?_ (fun c hc => by
    have := hb.cv c (hp.mem_iff.1 hc)
    have f0 := this.f0
    have f1 := this.f1
    omega) fun g _ => findC_perm hp hn g
  exact (hs.and hnS).imp fun h => by omega
def payM (b : Bk) (w : Int) (l : List Py) : (List Py × List Py) × Int := if chk b = 0 then (if wkR w = true then (if psOK b.cs l = true then ((payL b w l, ovrL b w l), 0) else (([], []), 82)) else (([], []), 1)) else (([], []), chk b)
end Go.Ab.T
end

section
namespace Go.Ab.T
set_option maxRecDepth 8000
set_option maxHeartbeats 4000000
theorem paid_ok (l : List Py) (f : Int) (h : PB l) : RV ft 58 [encPs l, I64 f] (I64 (paidS f l)) := by
  refine RV_of ft58 rfl ?_
  simp only [c58, r58]
  have hl := h.len
  simp only [go_sem, Nat.reduceEqDiff, Nat.reduceAdd, Nat.reduceLT, Nat.reduceLeDiff, reduceIte]
  refine WL_inv (α := Nat × List Py × Int) (fun q e mm => e 1 = I64 f ∧ e 5 = I64 q.2.2 ∧ e 8 = encPs l ∧ e 9 = I64 l.length ∧ e 10 = I64 q.1 ∧ l.drop q.1 = q.2.1 ∧ paidG f q.2.2 q.2.1 = paidS f l ∧ 0 ≤ q.2.2 ∧ q.2.2 ≤ q.1 * 1000000000 ∧ ∃ bl tk, mm = ⟨bl, tk⟩) (fun q => q.2.1.length) (0, l, 0) ?_ ?_
  · simp only [go_sem, Nat.reduceEqDiff, Nat.reduceAdd, Nat.reduceLT, Nat.reduceLeDiff, reduceIte]
    exact ⟨trivial, trivial, trivial, trivial, rfl, trivial, rfl, by omega, by simp, _, _, rfl⟩
  rintro ⟨k, r, a⟩ e m ⟨g1, g5, g8, g9, g10, hd, hq, a0, a1, bl, tk, rfl⟩
  dsimp only at g5 g10 hd hq a0 a1
  cases r with
  | nil =>
    have h3 := drop_nil hd
    simp only [go_sem, Nat.reduceEqDiff, Nat.reduceAdd, Nat.reduceLT, Nat.reduceLeDiff, reduceIte, g1, g5, g8, g9, g10, dec_ge h3]
    rw [← hq]; rfl
  | cons x r =>
    obtain ⟨hk, hd2, hlt⟩ := drop_cons hd
    have hx := h.c x (List.mem_of_getElem? hk)
    rw [paidG_cons] at hq
    cases e1 : (x.film == f)
    · rw [e1, if_neg (by decide)] at hq
      simp only [go_sem, Nat.reduceEqDiff, Nat.reduceAdd, Nat.reduceLT, Nat.reduceLeDiff, reduceIte, g1, g5, g8, g9, g10, dec_lt hlt, Ps_idx hk, e1, wrap_n1 k (by omega)]
      refine Nx_of (k + 1, r, a) (by simp) ?_
      simp only [go_sem, Nat.reduceEqDiff, Nat.reduceAdd, Nat.reduceLT, Nat.reduceLeDiff, reduceIte, g1, g5, g8, g9]
      exact ⟨trivial, trivial, trivial, trivial, trivial, hd2, hq, a0, by omega, _, _, rfl⟩
    · rw [e1, if_pos rfl] at hq
      have w1 : IntKind.i64.wrap (a + x.cents) = a + x.cents := wrap_i64 _ (by omega) (by omega)
      simp only [go_sem, Nat.reduceEqDiff, Nat.reduceAdd, Nat.reduceLT, Nat.reduceLeDiff, reduceIte, g1, g5, g8, g9, g10, dec_lt hlt, Ps_idx hk, e1, w1, wrap_n1 k (by omega)]
      refine Nx_of (k + 1, r, a + x.cents) (by simp) ?_
      simp only [go_sem, Nat.reduceEqDiff, Nat.reduceAdd, Nat.reduceLT, Nat.reduceLeDiff, reduceIte, g1, g8, g9]
      exact ⟨trivial, trivial, trivial, trivial, trivial, hd2, hq, by omega, by omega, _, _, rfl⟩
theorem valid85_ok (b : Bk) (p : Py) (hl : b.cs.length < 1073741824) : RV ft 85 [encP p, .pv (encB b) 0] (.bool (pyOK b.cs p)) := by
  refine RV_of ft85 rfl ?_
  simp only [c85, r85]
  have hf := find_ok b.cs p.film hl
  unfold pyOK
  cases hs : findC p.film b.cs with
  | none =>
    rw [hs] at hf
    simp only [go_sem, Nat.reduceEqDiff, Nat.reduceAdd, Nat.reduceLT, Nat.reduceLeDiff, reduceIte, WB46, WVH_eq hf, true_and, Option.getD, Option.isSome]
  | some c =>
    rw [hs] at hf
    simp only [go_sem, Nat.reduceEqDiff, Nat.reduceAdd, Nat.reduceLT, Nat.reduceLeDiff, reduceIte, WB46, WVH_eq hf, true_and, Option.getD, Option.isSome, WB69, WVH_eq (isWithin_ok _ _ _)]
theorem validPayments_ok (b : Bk) (l : List Py) (hl : b.cs.length < 1073741824) (hr : l.length < 1073741824) : RV ft 56 [encB b, encPs l] (.bool (psOK b.cs l)) := by
  refine RV_of ft56 rfl ?_
  simp only [c56, r56]
  have hA := allP_ok l (.fn 85 [] [.pv (encB b) 0]) (pyOK b.cs) hr rfl rfl (fun m q => by
    show AV.fn 85 [] [.pv (snap m (q + 6) (encB b)) 0] = _
    rw [snB]) (fun q => by
    show (false || (hot (q + 6) (encB b) || false)) = false
    rw [hotB]; rfl) (fun x hx e m K hK => by
    rw [WAH_fn]
    simp only [List.nil_append, List.cons_append]
    simp only [go_sem, Nat.reduceEqDiff, Nat.reduceAdd, Nat.reduceLT, Nat.reduceLeDiff, reduceIte, WB85, WVH_eq (valid85_ok b x hl), true_and]
    exact hK)
  unfold psOK
  cases d0 : decide ((l.length : Int) ≤ 100)
  · simp only [go_sem, Nat.reduceEqDiff, Nat.reduceAdd, Nat.reduceLT, Nat.reduceLeDiff, reduceIte, d0]
  · simp only [go_sem, Nat.reduceEqDiff, Nat.reduceAdd, Nat.reduceLT, Nat.reduceLeDiff, reduceIte, d0, WB84, WVH_eq hA, true_and]
theorem ArePaid_ok (b : Bk) (l : List Py) (hl : b.cs.length < 1073741824) (hr : l.length < 1073741824) : RV ft 27 [encB b, encPs l] (.bool (psOK b.cs l)) := by
  refine RV_of ft27 rfl ?_
  simp only [c27, r27]
  simp only [go_sem, Nat.reduceEqDiff, Nat.reduceAdd, Nat.reduceLT, Nat.reduceLeDiff, reduceIte]
  refine WL_inv (α := Nat × List Py) (fun q e mm => e 1 = encPs l ∧ e 2 = .ptr 0 0 0 ∧ e 5 = I64 q.1 ∧ l.drop q.1 = q.2 ∧ q.2.all (pyOK b.cs) = l.all (pyOK b.cs) ∧ ∃ bl tk, mm = ⟨.live [encB b] 3 :: bl, tk⟩) (fun q => q.2.length) (0, l) ?_ ?_
  · simp only [go_sem, Nat.reduceEqDiff, Nat.reduceAdd, Nat.reduceLT, Nat.reduceLeDiff, reduceIte]
    ((repeat' apply And.intro) <;> first | trivial | rfl | exact ⟨_, _, rfl⟩ | omega | assumption)
  rintro ⟨k, r⟩ e m ⟨g1, g2, g5, hd, hq, bl, tk, rfl⟩
  dsimp only at g5 hd hq
  cases r with
  | nil =>
    have h3 := drop_nil hd
    have hq : l.all (pyOK b.cs) = true := hq.symm
    simp only [go_sem, Nat.reduceEqDiff, Nat.reduceAdd, Nat.reduceLT, Nat.reduceLeDiff, reduceIte, g1, g2, g5, dec_ge h3]
    unfold psOK
    rw [hq, Bool.and_true]
  | cons x r =>
    obtain ⟨hk, hd2, hlt⟩ := drop_cons hd
    rw [List.all_cons] at hq
    have hf := Contract_ok b x.film hl
    have bad : pyOK b.cs x = false → psOK b.cs l = false := fun h => by
      rw [h, Bool.false_and] at hq
      unfold psOK
      rw [← hq, Bool.and_false]
    have px : pyOK b.cs x = ((findC x.film b.cs).isSome && inR x.cents 0 1000000000) := rfl
    cases hs : findC x.film b.cs with
    | none =>
      rw [hs] at hf px
      simp only [go_sem, Nat.reduceEqDiff, Nat.reduceAdd, Nat.reduceLT, Nat.reduceLeDiff, reduceIte, g1, g2, g5, dec_lt hlt, Ps_idx hk, WB21, WVH_eq hf, true_and, Option.getD, Option.isSome]
      rw [bad px]
    | some c =>
      rw [hs] at hf px
      cases hc : inR x.cents 0 1000000000
      · rw [hc] at px
        simp only [go_sem, Nat.reduceEqDiff, Nat.reduceAdd, Nat.reduceLT, Nat.reduceLeDiff, reduceIte, g1, g2, g5, dec_lt hlt, Ps_idx hk, WB21, WVH_eq hf, true_and, Option.getD, Option.isSome, WB55, WVH_eq (within_ok _ _ _), hc]
        rw [bad px]
      · rw [hc] at px
        rw [show pyOK b.cs x = true from px, Bool.true_and] at hq
        simp only [go_sem, Nat.reduceEqDiff, Nat.reduceAdd, Nat.reduceLT, Nat.reduceLeDiff, reduceIte, g1, g2, g5, dec_lt hlt, Ps_idx hk, WB21, WVH_eq hf, true_and, Option.getD, Option.isSome, WB55, WVH_eq (within_ok _ _ _), hc, wrap_n1 k (by omega)]
        refine Nx_of (k + 1, r) (by simp) ?_
        simp only [go_sem, Nat.reduceEqDiff, Nat.reduceAdd, Nat.reduceLT, Nat.reduceLeDiff, reduceIte, g1, g2]
        exact ⟨trivial, trivial, trivial, hd2, hq, _, _, rfl⟩
end Go.Ab.T
end

section
namespace Go.Ab.T
set_option maxRecDepth 8000
set_option maxHeartbeats 4000000
open Go.Sort
/-- Contracts as the sort's elements. -/
def cEls : Els where
  sz := 9
  lz := some 9
  D := fun x => ∃ c, x = encC c
  len := fun x ⟨k, h⟩ => by rw [h]; rfl
  sol := fun x ⟨k, h⟩ => by rw [h]; rfl
  rd := fun x ⟨k, h⟩ => by rw [h]; rfl
  wr := fun x y ⟨k, h⟩ ⟨k', h'⟩ => by rw [h, h']; rfl
def cmpI (x y : Int) : Int := if x < y then -1 else if y < x then 1 else 0
theorem isNaN_ok (x : Int) : RV ft 102 [I64 x] (.bool false) := by
  refine RV_of ft102 rfl ?_
  simp only [c102, r102]
  simp only [go_sem, Nat.reduceEqDiff, Nat.reduceAdd, Nat.reduceLT, Nat.reduceLeDiff, reduceIte, show (x != x) = false by simp]
theorem Compare_ok (x y : Int) : RV ft 79 [I64 x, I64 y] (I64 (cmpI x y)) := by
  refine RV_of ft79 rfl ?_
  simp only [c79, r79]
  unfold cmpI
  by_cases h1 : x < y
  · simp only [go_sem, Nat.reduceEqDiff, Nat.reduceAdd, Nat.reduceLT, Nat.reduceLeDiff, reduceIte, WB102, WVH_eq (isNaN_ok x), WVH_eq (isNaN_ok y), true_and, show decide (x < y) = true from decide_eq_true h1, if_pos h1]
  · by_cases h2 : y < x
    · simp only [go_sem, Nat.reduceEqDiff, Nat.reduceAdd, Nat.reduceLT, Nat.reduceLeDiff, reduceIte, WB102, WVH_eq (isNaN_ok x), WVH_eq (isNaN_ok y), true_and, show decide (x < y) = false from decide_eq_false h1, show decide (y < x) = true from decide_eq_true h2, if_neg h1, if_pos h2]
    · simp only [go_sem, Nat.reduceEqDiff, Nat.reduceAdd, Nat.reduceLT, Nat.reduceLeDiff, reduceIte, WB102, WVH_eq (isNaN_ok x), WVH_eq (isNaN_ok y), true_and, show decide (x < y) = false from decide_eq_false h1, show decide (y < x) = false from decide_eq_false h2, if_neg h1, if_neg h2]
theorem cmpI_lt (x y : Int) : decide (cmpI x y < 0) = decide (x < y) := by
  unfold cmpI
  by_cases h1 : x < y
  · rw [if_pos h1, decide_eq_true h1]; rfl
  · rw [if_neg h1, decide_eq_false h1]
    by_cases h2 : y < x
    · rw [if_pos h2]; rfl
    · rw [if_neg h2]; rfl
theorem byFilm1_ok (c d : Ct) : RV ft 87 [encC c, encC d] (I64 (cmpI c.film d.film)) := by
  refine RV_of ft87 rfl ?_
  simp only [c87, r87]
  simp only [go_sem, Nat.reduceEqDiff, Nat.reduceAdd, Nat.reduceLT, Nat.reduceLeDiff, reduceIte, WB79, WVH_eq (Compare_ok c.film d.film), true_and]
def flOf (x : AV) : Int := match x with | .agg [.int _ n, _, _, _, _, _, _, _, _] => n | _ => 0
/-- Contracts by Film. -/
def byFl : CmpOK ft cEls (.fn 87 [] []) where
  cf := fun x y => cmpI (flOf x) (flOf y)
  ok := fun x y ⟨k, hk⟩ ⟨j, hj⟩ s K => by
    subst hk; subst hj
    rw [WAH_fn]
    simp only [List.nil_append, List.append_nil]
    rw [WB87]
    simp only [List.map_cons, List.map_nil, dep_eq, snC]
    rw [WV_eq (byFilm1_ok k j)]
    simp only [List.all_cons, List.all_nil, hotC]
    exact propext ⟨fun h => h.2, fun h => ⟨rfl, h⟩⟩
theorem byFl_lt (x y : AV) : byFl.lt x y = decide (flOf x < flOf y) := cmpI_lt _ _
theorem swo_int {f : AV → Int} : SWO (fun x y => decide (f x < f y)) where
  irrefl := fun x => by simp
  trans := fun x y z h1 h2 => by simp at h1 h2 ⊢; omega
  ntrans := fun x y z h1 h2 => by simp at h1 h2 ⊢; omega
theorem byFl_swo : SWO byFl.lt := by
  have : byFl.lt = fun x y => decide (flOf x < flOf y) := funext fun x => funext fun y => byFl_lt x y
  rw [this]; exact swo_int
def unI (x : AV) : Int := match x with | .int _ n => n | _ => 0
def unT (x : AV) : Ti := match x with | .agg [a, b] => ⟨unI a, unI b⟩ | _ => ⟨0, 0⟩
def unC (x : AV) : Ct := match x with | .agg [a, b, c, .sl s _, .sl t _, d, e, f, g] => ⟨unI a, unI b, unI c, s.map unI, t.map unT, unI d, unI e, unI f, unI g⟩ | _ => zC
theorem unC_enc (k : Ct) : unC (encC k) = k := by
  obtain ⟨a, b, c, s, t, d, e, f, g⟩ := k
  have h1 : (s.map fun n : Int => I64 n).map unI = s := by
    rw [List.map_map]
    induction s with
    | nil => rfl
    | cons x r ih => simp only [List.map_cons, ih]; rfl
  have h2 : (t.map encT).map unT = t := by
    rw [List.map_map]
    induction t with
    | nil => rfl
    | cons x r ih => simp only [List.map_cons, ih]; rfl
  show (⟨a, b, c, (s.map fun n : Int => I64 n).map unI, (t.map encT).map unT, d, e, f, g⟩ : Ct) = _
  rw [h1, h2]
theorem pBits : ft 101 = some ⟨1, Srt.bitsLenC 123 124, Srt.bitsLenR, .v⟩ := rfl
theorem pLen : ft 124 = some ⟨1, Srt.len64C, Srt.len64R, .v⟩ := rfl
theorem pIns : ft 126 = some ⟨4, Srt.insertionSortF 9 (some 9), Srt.insertionSortFR, .r⟩ := rfl
/-- Few contracts that lie in a block are sorted by film. -/
theorem sortC_run {id : Nat} {l : List Ct} {m : Mem} (hm : m.blks[id]? = some (.live (l.map encC) 9)) (hl : l.length ≤ 12) (K : AV → Mem → Prop)
    (hK : ∀ (l' : List Ct) (m' : Mem), l'.Perm l → l'.Pairwise (fun a b => a.film ≤ b.film) → m'.blks[id]? = some (.live (l'.map encC) 9) → (∀ i, i < m.blks.length → i ≠ id → m'.blks[i]? = m.blks[i]?) → m.blks.length ≤ m'.blks.length → m'.toks = m.toks → K (.tup []) m') :
    WR ft (.f 86) [.ref id 0 l.length, .fn 87 [] []] m K := by
  have hid : id < m.blks.length := (List.getElem?_eq_some_iff.1 hm).1
  have hgk : ∀ i (h : i < l.length), (l.map encC).toArray[i]! = encC l[i] := fun i h => by
    rw [getElem!_pos _ i (by simpa using h)]; simp
  have hD : AllD cEls (l.map encC).toArray := fun i hi => ⟨l[i]'(by simpa using hi), hgk i (by simpa using hi)⟩
  have h00 : MR m m id 9 (l.map encC).toArray := MR.refl (by simpa using hm)
  have hsz0 : (l.map encC).toArray.size = l.length := by simp
  have hK2 : ∀ m', MR m m' id 9 (insertionSort byFl.lt (l.map encC).toArray 0 l.length) → K (.tup []) m' := fun m' h1 => by
    obtain ⟨h2, h3⟩ := insertionSort_holds (lt := byFl.lt) byFl_swo (l.map encC).toArray 0 l.length (by omega) (by omega)
    generalize insertionSort byFl.lt (l.map encC).toArray 0 l.length = d' at h1 h2 h3
    have hsz : d'.size = l.length := by rw [h2.1]; simp
    have hperm : d'.toList.Perm (l.map encC) := by
      have := h2.2.2
      rw [show d'.extract 0 l.length = d' by rw [← hsz]; simp, show (l.map encC).toArray.extract 0 l.length = (l.map encC).toArray by simp [List.take_of_length_le]] at this
      simpa using this
    obtain ⟨l', hl', hp⟩ : ∃ l' : List Ct, d'.toList = l'.map encC ∧ l'.Perm l := by
      have key : ∀ (xs : List AV) (ys : List Ct), xs.Perm (ys.map encC) → ∃ zs : List Ct, xs = zs.map encC ∧ zs.Perm ys := by
        intro xs ys h
        have hmem : ∀ x ∈ xs, ∃ y, encC y = x := fun x hx => by
          obtain ⟨y, _, hy⟩ := List.mem_map.1 (h.mem_iff.1 hx); exact ⟨y, hy⟩
        have hex : ∃ zs : List Ct, xs = zs.map encC := by
          clear h
          induction xs with
          | nil => exact ⟨[], rfl⟩
          | cons x xs ih =>
            obtain ⟨y, hy⟩ := hmem x (by simp)
            obtain ⟨zs, hz⟩ := ih fun x hx => hmem x (by simp [hx])
            exact ⟨y :: zs, by simp [hy, hz]⟩
        obtain ⟨zs, rfl⟩ := hex
        refine ⟨zs, rfl, ?_⟩
        have := h.map unC
        rw [List.map_map, List.map_map, show unC ∘ encC = fun k => k from funext unC_enc] at this
        simpa using this
      exact key _ _ hperm
    have hsz' : l'.length = l.length := hp.length_eq
    refine hK l' m' hp ?_ (by have := h1.blk; rw [hl'] at this; exact this) h1.old h1.len h1.toks
    rw [List.pairwise_iff_getElem]
    intro i j hi hj hij
    have hs := h3 i j (by omega) hij (by omega)
    have gi : d'[i]! = encC l'[i] := by
      have := get_bang (d := d') (i := i) (by omega)
      rw [hl', List.getElem?_map, List.getElem?_eq_getElem hi] at this
      simp only [Option.map_some, Option.some.injEq] at this
      exact this.symm
    have gj : d'[j]! = encC l'[j] := by
      have := get_bang (d := d') (i := j) (by omega)
      rw [hl', List.getElem?_map, List.getElem?_eq_getElem hj] at this
      simp only [Option.map_some, Option.some.injEq] at this
      exact this.symm
    rw [byFl_lt, gi, gj] at hs
    have hs := of_decide_eq_false hs
    simp only [flOf, encC] at hs
    omega
  rw [WR_f ft86 rfl]
  simp only [c86, r86]
  have hlen := h00.lenE l.length
  have hu : IntKind.u64.wrap (l.length : Int) = (l.length : Int) := wrap_u64 _ (by omega) (by omega)
  simp only [go_sem, Nat.reduceEqDiff, Nat.reduceAdd, Nat.reduceLT, Nat.reduceLeDiff, reduceIte, hlen, hu, WB101, WVH_eq (Few.bits_few pBits pLen (n := l.length) (by omega)), true_and, WB105]
  show WR ft (.f 105) _ m _
  rw [WR_f ft105 rfl]
  simp only [c105, r105]
  simp only [go_sem, Nat.reduceEqDiff, Nat.reduceAdd, Nat.reduceLT, Nat.reduceLeDiff, reduceIte]
  refine WL_inv (α := Unit) (fun _ e mm => e 0 = .ref id 0 l.length ∧ e 1 = I64 0 ∧ e 2 = I64 (l.length : Int) ∧ e 4 = .fn 87 [] [] ∧ mm = m) (fun _ => 0) () ?_ ?_
  · simp only [go_sem, Nat.reduceEqDiff, Nat.reduceAdd, Nat.reduceLT, Nat.reduceLeDiff, reduceIte]
  rintro _ e m1 ⟨h0, h1, h2, h4, rfl⟩
  have w1 : IntKind.i64.wrap ((l.length : Int) - 0) = (l.length : Int) := by rw [Int.sub_zero]; exact wrap_i64 _ (by omega) (by omega)
  have d1 : decide ((l.length : Int) ≤ 12) = true := decide_eq_true (by omega)
  simp only [go_sem, Nat.reduceEqDiff, Nat.reduceAdd, Nat.reduceLT, Nat.reduceLeDiff, reduceIte, h0, h1, h2, h4, w1, d1, WB126]
  show WR ft (.f 126) _ m1 _
  refine Srt.ins_run (E := cEls) byFl (f := 126) (a := 0) pIns (by omega) (by omega) (Nat.le_refl _) (by omega) hD h00 _ fun m' h => ?_
  simp only [go_sem, Nat.reduceEqDiff, Nat.reduceAdd, Nat.reduceLT, Nat.reduceLeDiff, reduceIte]
  exact hK2 m' h
theorem shC (n t q : Nat) (c : Ct) : Ab.shift n t (q + 4) (encC c) = encC c := by
  show AV.agg [I64 c.film, I64 c.fi, I64 c.la, .sl ((c.st.map fun n : Int => I64 n).map (Ab.shift n t (q + 2))) .unk, .sl ((c.ti.map encT).map (Ab.shift n t (q + 2))) .unk, I64 c.nut, I64 c.ov, I64 c.fl, I64 c.gu] = _
  rw [List.map_map, List.map_map]; rfl
theorem app0C (l : List Ct) (hl : l.length < 1000000) (hne : l ≠ []) : append0 ⟨[], []⟩ (.sl [] .tight) (encCs l) 9 104 = some (.ref 0 0 l.length, ⟨[.live (l.map encC) 9], []⟩) := by
  have hs : hdSz (l.map encC) 9 = true := by
    cases l with
    | nil => rfl
    | cons x r => rfl
  have hm : l.map encC ≠ [] := fun h => hne (List.map_eq_nil_iff.1 h)
  show append0 ⟨[], []⟩ (.sl [] .tight) (.sl (l.map encC) .unk) 9 104 = _
  simp only [append0, Mem.elems]
  rw [if_pos ⟨⟨by simp only [List.length_map, limit]; omega, hs⟩, hm⟩, List.length_map]
  rfl
theorem CloneC_run (l : List Ct) (hl : l.length < 1000000) : WR ft (.f 81) [encCs l] .nil fun v m => (l = [] ∧ v = .sl [] .tight ∧ m = .nil) ∨ (l ≠ [] ∧ v = .ref 0 0 l.length ∧ m = ⟨[.live (l.map encC) 9], []⟩) := by
  rw [WR_f ft81 rfl]
  simp only [c81, r81]
  simp only [go_sem, Nat.reduceEqDiff, Nat.reduceAdd, Nat.reduceLT, Nat.reduceLeDiff, reduceIte]
  refine W_nilq ?_
  simp only [go_sem, Nat.reduceEqDiff, Nat.reduceAdd, Nat.reduceLT, Nat.reduceLeDiff, reduceIte]
  cases l with
  | cons x r =>
    have ha := app0C (x :: r) hl (by simp)
    refine .inl ⟨encC x, r.map encC, .unk, rfl, ?_⟩
    simp only [go_sem, Nat.reduceEqDiff, Nat.reduceAdd, Nat.reduceLT, Nat.reduceLeDiff, reduceIte, ha]
    exact .inr ⟨by simp, rfl, rfl⟩
  | nil =>
    have ha : append0 ⟨[], []⟩ (.sl [] .tight) (encCs []) 9 104 = some (.sl [] .tight, ⟨[], []⟩) := rfl
    refine .inr (.inr ⟨.unk, .ret, (⟨upd (entry [encCs []]) 2 (.sl [] .tight), ⟨[], []⟩⟩ : St).forget [3, 4, 5, 6, 7], rfl, ?_, fun b => ?_⟩)
    · show Fin _ _ _ _
      simp only [go_sem, Nat.reduceEqDiff, Nat.reduceAdd, Nat.reduceLT, Nat.reduceLeDiff, reduceIte]
      exact .inl ⟨by trivial, by trivial, by trivial⟩
    · cases b
      · simp only [go_sem, Nat.reduceEqDiff, Nat.reduceAdd, Nat.reduceLT, Nat.reduceLeDiff, reduceIte, ha]
        refine ⟨trivial, ?_⟩
        show St.mk _ _ = St.mk _ _
        congr 1
        funext t
        match t with
        | 0 => rfl
        | 1 => rfl
        | 2 => rfl
        | 3 => rfl
        | 4 => rfl
        | 5 => rfl
        | 6 => rfl
        | 7 => rfl
        | n + 8 => rfl
      · simp only [go_sem, Nat.reduceEqDiff, Nat.reduceAdd, Nat.reduceLT, Nat.reduceLeDiff, reduceIte]
        refine ⟨trivial, ?_⟩
        show St.mk _ _ = St.mk _ _
        congr 1
        funext t
        match t with
        | 0 => rfl
        | 1 => rfl
        | 2 => rfl
        | 3 => rfl
        | 4 => rfl
        | 5 => rfl
        | 6 => rfl
        | 7 => rfl
        | n + 8 => rfl
theorem sortC_nil (tk : Tk) (m : Mem) (K : AV → Mem → Prop) (hK : K (.tup []) m) : WR ft (.f 86) [.sl [] tk, .fn 87 [] []] m K := by
  rw [WR_f ft86 rfl]
  simp only [c86, r86]
  have hu : IntKind.u64.wrap ((0 : Nat) : Int) = ((0 : Nat) : Int) := rfl
  simp only [go_sem, Nat.reduceEqDiff, Nat.reduceAdd, Nat.reduceLT, Nat.reduceLeDiff, reduceIte, hu, WB101, WVH_eq (Few.bits_few pBits pLen (n := 0) (by omega)), true_and, WB105]
  show WR ft (.f 105) _ m _
  rw [WR_f ft105 rfl]
  simp only [c105, r105]
  simp only [go_sem, Nat.reduceEqDiff, Nat.reduceAdd, Nat.reduceLT, Nat.reduceLeDiff, reduceIte]
  refine WL_inv (α := Unit) (fun _ e mm => e 0 = .sl [] tk ∧ e 1 = I64 0 ∧ e 2 = I64 ((0 : Nat) : Int) ∧ e 4 = .fn 87 [] [] ∧ mm = m) (fun _ => 0) () ?_ ?_
  · simp only [go_sem, Nat.reduceEqDiff, Nat.reduceAdd, Nat.reduceLT, Nat.reduceLeDiff, reduceIte]
  rintro _ e m1 ⟨h0, h1, h2, h4, rfl⟩
  simp only [go_sem, Nat.reduceEqDiff, Nat.reduceAdd, Nat.reduceLT, Nat.reduceLeDiff, reduceIte, h0, h1, h2, h4, show IntKind.i64.wrap (((0 : Nat) : Int) - 0) = 0 from rfl, show decide ((0 : Int) ≤ 12) = true from rfl, WB126]
  show WR ft (.f 126) _ m1 _
  rw [WR_f ft126 rfl]
  simp only [c126, r126]
  simp only [go_sem, Nat.reduceEqDiff, Nat.reduceAdd, Nat.reduceLT, Nat.reduceLeDiff, reduceIte, show IntKind.i64.wrap ((0 : Int) + 1) = 1 from rfl]
  refine WL_inv (α := Unit) (fun _ e mm => e 2 = I64 ((0 : Nat) : Int) ∧ e 8 = I64 1 ∧ mm = m1) (fun _ => 0) () ?_ ?_
  · simp only [go_sem, Nat.reduceEqDiff, Nat.reduceAdd, Nat.reduceLT, Nat.reduceLeDiff, reduceIte]
  rintro _ e' m2 ⟨g2, g8, rfl⟩
  simp only [go_sem, Nat.reduceEqDiff, Nat.reduceAdd, Nat.reduceLT, Nat.reduceLeDiff, reduceIte, g2, g8, show decide ((1 : Int) < ((0 : Nat) : Int)) = false from rfl]
  exact hK
theorem byFilm_ok (l : List Ct) (hl : l.length ≤ 12) : ∃ S : List Ct, S.Perm l ∧ S.Pairwise (fun a b => a.film ≤ b.film) ∧ RV ft 57 [encCs l] (encCs S) := by
  have h : WR ft (.f 57) [encCs l] .nil fun v m => ∃ S : List Ct, S.Perm l ∧ S.Pairwise (fun a b => a.film ≤ b.film) ∧ snap m dep v = encCs S := by
    rw [WR_f ft57 rfl]
    simp only [c57, r57]
    simp only [go_sem, Nat.reduceEqDiff, Nat.reduceAdd, Nat.reduceLT, Nat.reduceLeDiff, reduceIte, WB81]
    refine WR_mono (CloneC_run l (by omega)) fun v m h => ?_
    rcases h with ⟨rfl, rfl, rfl⟩ | ⟨hne, rfl, rfl⟩
    · simp only [go_sem, Nat.reduceEqDiff, Nat.reduceAdd, Nat.reduceLT, Nat.reduceLeDiff, reduceIte, hotCs, WB86]
      refine ⟨trivial, ?_⟩
      show WR ft (.f 86) [.sl [] .tight, .fn 87 [] []] ⟨[], []⟩ _
      refine sortC_nil .tight _ _ ?_
      simp only [go_sem, Nat.reduceEqDiff, Nat.reduceAdd, Nat.reduceLT, Nat.reduceLeDiff, reduceIte]
      exact ⟨[], List.Perm.refl _, .nil, rfl⟩
    · have hsh : (l.map encC).map (Ab.shift 0 0 12) = l.map encC := by
        rw [List.map_map, show Ab.shift 0 0 12 ∘ encC = encC from funext fun c => shC 0 0 8 c]
      simp only [go_sem, Nat.reduceEqDiff, Nat.reduceAdd, Nat.reduceLT, Nat.reduceLeDiff, reduceIte, hotCs, WB86, joinMem]
      refine ⟨trivial, ?_⟩
      show WR ft (.f 86) [.ref (0 + 0) 0 l.length, .fn 87 [] []] ⟨[.live ((l.map encC).map (Ab.shift 0 0 12)) 9], []⟩ _
      rw [hsh]
      refine sortC_run (id := 0) (l := l) rfl hl _ fun l' m' p1 p2 p3 p4 p5 p6 => ?_
      simp only [go_sem, Nat.reduceEqDiff, Nat.reduceAdd, Nat.reduceLT, Nat.reduceLeDiff, reduceIte]
      refine ⟨l', p1, p2, ?_⟩
      have e : snap m' 12 (.ref 0 0 l.length) = encCs l' := by
        simp only [snap_ref, elems_ref, p3, elBlk_live]
        rw [if_pos (by simp [p1.length_eq]), List.drop_zero, ← p1.length_eq, show l'.length = (l'.map encC).length by simp, List.take_length]
        show AV.sl ((l'.map encC).map (snap m' 11)) .unk = _
        rw [List.map_map, show snap m' 11 ∘ encC = encC from funext fun c => snC m' 7 c]; rfl
      exact e
  obtain ⟨n, p, h1, S, h2, h3, h4⟩ := h
  exact ⟨S, h2, h3, n, by simp only [callV, h1, Option.map_some, h4]⟩
end Go.Ab.T
end
