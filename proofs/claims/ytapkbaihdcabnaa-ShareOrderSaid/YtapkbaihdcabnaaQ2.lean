/-
  A part of the proofs over this seat.
  (The texts KsM6 KsK18 KsK19, one behind the other.)
-/
import Derived.Test.YtapkbaihdcabnaaP5
import Derived.Test.YtapkbaihdcabnaaP4
set_option linter.unusedSimpArgs false
set_option linter.unusedVariables false
set_option linter.unusedSectionVars false
section
namespace Go.Ab.T
/-! ### What is paid -/
def paidG (f : Int) (a : Int) (l : List Py) : Int := l.foldl (fun a p => if (p.film == f) = true then a + p.cents else a) a
def paidS (f : Int) (l : List Py) : Int := paidG f 0 l
theorem paidG_cons (f a : Int) (p : Py) (l : List Py) : paidG f a (p :: l) = paidG f (if (p.film == f) = true then a + p.cents else a) l := rfl
theorem paidG_add (f : Int) : ∀ (l : List Py) (a x : Int), paidG f (a + x) l = paidG f a l + x
  | [], a, x => rfl
  | p :: l, a, x => by
    rw [paidG_cons, paidG_cons, ← paidG_add f l]
    congr 1
    split <;> omega
theorem paidS_cons (f : Int) (p : Py) (l : List Py) : paidS f (p :: l) = paidS f l + if (p.film == f) = true then p.cents else 0 := by
  unfold paidS
  rw [paidG_cons, ← paidG_add]
  congr 1
  split <;> omega
structure PB (l : List Py) : Prop where
  len : l.length ≤ 100
  c : ∀ p ∈ l, 0 ≤ p.cents ∧ p.cents ≤ 1000000000
theorem paidS_bound (f : Int) : ∀ {l : List Py}, (∀ p ∈ l, 0 ≤ p.cents ∧ p.cents ≤ 1000000000) → 0 ≤ paidS f l ∧ paidS f l ≤ l.length * 1000000000
  | [], _ => ⟨Int.le_refl _, by show (0 : Int) ≤ _; simp⟩
  | p :: l, h => by
    have h1 := paidS_bound f fun q hq => h q (List.mem_cons_of_mem _ hq)
    have h2 := h p (by simp)
    rw [paidS_cons, List.length_cons]
    split <;> omega
theorem PB.s {l : List Py} (h : PB l) (f : Int) : 0 ≤ paidS f l ∧ paidS f l ≤ 100000000000 := by
  have h1 := paidS_bound f h.c
  have h2 := h.len
  omega
/-! ### In the order of the films -/
theorem findC_none : ∀ {l : List Ct} {f : Int}, findC f l = none ↔ ∀ c ∈ l, c.film ≠ f
  | [], f => ⟨fun _ c h => (by cases h), fun _ => rfl⟩
  | c :: l, f => by
    show (if (c.film == f) = true then some c else findC f l) = none ↔ _
    by_cases h : c.film = f
    · rw [if_pos (by simpa using h)]
      exact ⟨fun h => (by cases h), fun h2 => absurd h (h2 c (by simp))⟩
    · rw [if_neg (by simpa using h), findC_none]
      constructor
      · intro h2 x hx
        rcases List.mem_cons.1 hx with rfl | hx
        · exact h
        · exact h2 x hx
      · exact fun h2 x hx => h2 x (by simp [hx])
theorem onceF_out : ∀ (l p : List Ct), onceF p l = true → (∀ x ∈ l, ∀ y ∈ p, y.film ≠ x.film) ∧ l.Pairwise fun a b => a.film ≠ b.film
  | [], p, _ => ⟨fun x hx => (by cases hx), .nil⟩
  | c :: l, p, h => by
    have h : ((findC c.film p).isNone && onceF (p ++ [c]) l) = true := h
    rw [Bool.and_eq_true] at h
    have h1 := findC_none.1 (Option.isNone_iff_eq_none.1 h.1)
    have h2 := onceF_out l (p ++ [c]) h.2
    refine ⟨fun x hx y hy => ?_, List.pairwise_cons.2 ⟨fun x hx => h2.1 x hx c (by simp), h2.2⟩⟩
    rcases List.mem_cons.1 hx with rfl | hx
    · exact h1 y hy
    · exact h2.1 x hx y (by simp [hy])
theorem BV.dist {b : Bk} (hb : BV b) : b.cs.Pairwise fun a b => a.film ≠ b.film := (onceF_out b.cs [] hb.co).2
theorem findC_perm {cs S : List Ct} (hp : S.Perm cs) (hn : cs.Pairwise fun a b => a.film ≠ b.film) (f : Int) : findC f cs = findC f S := by
  have hnS : S.Pairwise fun a b => a.film ≠ b.film := hp.symm.pairwise hn fun h => Ne.symm h
  have uniq : ∀ {l : List Ct}, l.Pairwise (fun a b => a.film ≠ b.film) → ∀ a ∈ l, ∀ b ∈ l, a.film = b.film → a = b := by
    intro l hl
    induction hl with
    | nil => intro a ha; cases ha
    | cons h _ ih =>
      intro a ha b hb e
      rcases List.mem_cons.1 ha with ha' | ha' <;> rcases List.mem_cons.1 hb with hb' | hb'
      · rw [ha', hb']
      · subst ha'; exact absurd e (h b hb')
      · subst hb'; exact absurd e.symm (h a ha')
      · exact ih a ha' b hb' e
  cases h1 : findC f cs with
  | none =>
    symm
    rw [findC_none] at h1 ⊢
    exact fun c hc => h1 c (hp.mem_iff.1 hc)
  | some c =>
    have h2 := findC_mem h1
    cases h3 : findC f S with
    | none => exact absurd h2.2 (findC_none.1 h3 c (hp.mem_iff.2 h2.1))
    | some d =>
      have h4 := findC_mem h3
      rw [uniq hn c h2.1 d (hp.mem_iff.1 h4.1) (by rw [h2.2, h4.2])]
end Go.Ab.T
end


section
namespace Go.Ab.T
set_option maxRecDepth 8000
set_option maxHeartbeats 4000000
open Go.Sort
def cmpI (x y : Int) : Int := if x < y then -1 else if y < x then 1 else 0
theorem isNaN_ok (x : Int) : RV ft 102 [I64 x] (.bool false) := by
  refine RV_of ft102 rfl ?_
  simp only [c102, r102]
  simp only [go_sem, Nat.reduceEqDiff, Nat.reduceAdd, Nat.reduceLT, Nat.reduceLeDiff, reduceIte, show (x != x) = false by simp]
theorem Compare_ok (x y : Int) : RV ft 79 [I64 x, I64 y] (I64 (cmpI x y)) := by
  refine RV_of ft79 rfl ?_
  simp only [c79, r79]
  unfold cmpI
  by_cases h1 : x < y
  · simp only [go_sem, Nat.reduceEqDiff, Nat.reduceAdd, Nat.reduceLT, Nat.reduceLeDiff, reduceIte, WB102, WVH_eq (isNaN_ok x), WVH_eq (isNaN_ok y), true_and, show decide (x < y) = true from decide_eq_true h1, if_pos h1]
  · by_cases h2 : y < x
    · simp only [go_sem, Nat.reduceEqDiff, Nat.reduceAdd, Nat.reduceLT, Nat.reduceLeDiff, reduceIte, WB102, WVH_eq (isNaN_ok x), WVH_eq (isNaN_ok y), true_and, show decide (x < y) = false from decide_eq_false h1, show decide (y < x) = true from decide_eq_true h2, if_neg h1, if_pos h2]
    · simp only [go_sem, Nat.reduceEqDiff, Nat.reduceAdd, Nat.reduceLT, Nat.reduceLeDiff, reduceIte, WB102, WVH_eq (isNaN_ok x), WVH_eq (isNaN_ok y), true_and, show decide (x < y) = false from decide_eq_false h1, show decide (y < x) = false from decide_eq_false h2, if_neg h1, if_neg h2]
theorem cmpI_lt (x y : Int) : decide (cmpI x y < 0) = decide (x < y) := by
  unfold cmpI
  by_cases h1 : x < y
  · rw [if_pos h1, decide_eq_true h1]; rfl
  · rw [if_neg h1, decide_eq_false h1]
    by_cases h2 : y < x
    · rw [if_pos h2]; rfl
    · rw [if_neg h2]; rfl
theorem swo_int {f : AV → Int} : SWO (fun x y => decide (f x < f y)) where
  irrefl := fun x => by simp
  trans := fun x y z h1 h2 => by simp at h1 h2 ⊢; omega
  ntrans := fun x y z h1 h2 => by simp at h1 h2 ⊢; omega
def unI (x : AV) : Int := match x with | .int _ n => n | _ => 0
theorem shC (n t q : Nat) (c : Ct) : Ab.shift n t (q + 4) (encC c) = encC c := by
  show AV.agg [I64 c.film, I64 c.fi, I64 c.la, .sl ((c.st.map fun n : Int => I64 n).map (Ab.shift n t (q + 2))) .unk, .sl ((c.ti.map encT).map (Ab.shift n t (q + 2))) .unk, I64 c.nut, I64 c.ov, I64 c.fl, I64 c.gu] = _
  rw [List.map_map, List.map_map]; rfl
theorem app0C (l : List Ct) (hl : l.length < 1000000) (hne : l ≠ []) : append0 ⟨[], []⟩ (.sl [] .tight) (encCs l) 9 104 = some (.ref 0 0 l.length, ⟨[.live (l.map encC) 9], []⟩) := by
  have hs : hdSz (l.map encC) 9 = true := by
    cases l with
    | nil => rfl
    | cons x r => rfl
  have hm : l.map encC ≠ [] := fun h => hne (List.map_eq_nil_iff.1 h)
  show append0 ⟨[], []⟩ (.sl [] .tight) (.sl (l.map encC) .unk) 9 104 = _
  simp only [append0, Mem.elems]
  rw [if_pos ⟨⟨by simp only [List.length_map, limit]; omega, hs⟩, hm⟩, List.length_map]
  rfl
theorem CloneC_run (l : List Ct) (hl : l.length < 1000000) : WR ft (.f 81) [encCs l] .nil fun v m => (l = [] ∧ v = .sl [] .tight ∧ m = .nil) ∨ (l ≠ [] ∧ v = .ref 0 0 l.length ∧ m = ⟨[.live (l.map encC) 9], []⟩) := by
  rw [WR_f ft81 rfl]
  simp only [c81, r81]
  simp only [go_sem, Nat.reduceEqDiff, Nat.reduceAdd, Nat.reduceLT, Nat.reduceLeDiff, reduceIte]
  refine W_nilq ?_
  simp only [go_sem, Nat.reduceEqDiff, Nat.reduceAdd, Nat.reduceLT, Nat.reduceLeDiff, reduceIte]
  cases l with
  | cons x r =>
    have ha := app0C (x :: r) hl (by simp)
    refine .inl ⟨encC x, r.map encC, .unk, rfl, ?_⟩
    simp only [go_sem, Nat.reduceEqDiff, Nat.reduceAdd, Nat.reduceLT, Nat.reduceLeDiff, reduceIte, ha]
    exact .inr ⟨by simp, rfl, rfl⟩
  | nil =>
    have ha : append0 ⟨[], []⟩ (.sl [] .tight) (encCs []) 9 104 = some (.sl [] .tight, ⟨[], []⟩) := rfl
    refine .inr (.inr ⟨.unk, .ret, (⟨upd (entry [encCs []]) 2 (.sl [] .tight), ⟨[], []⟩⟩ : St).forget [3, 4, 5, 6, 7], rfl, ?_, fun b => ?_⟩)
    · show Fin _ _ _ _
      simp only [go_sem, Nat.reduceEqDiff, Nat.reduceAdd, Nat.reduceLT, Nat.reduceLeDiff, reduceIte]
      exact .inl ⟨by trivial, by trivial, by trivial⟩
    · cases b
      · simp only [go_sem, Nat.reduceEqDiff, Nat.reduceAdd, Nat.reduceLT, Nat.reduceLeDiff, reduceIte, ha]
        refine ⟨trivial, ?_⟩
        show St.mk _ _ = St.mk _ _
        congr 1
        funext t
        match t with
        | 0 => rfl
        | 1 => rfl
        | 2 => rfl
        | 3 => rfl
        | 4 => rfl
        | 5 => rfl
        | 6 => rfl
        | 7 => rfl
        | n + 8 => rfl
      · simp only [go_sem, Nat.reduceEqDiff, Nat.reduceAdd, Nat.reduceLT, Nat.reduceLeDiff, reduceIte]
        refine ⟨trivial, ?_⟩
        show St.mk _ _ = St.mk _ _
        congr 1
        funext t
        match t with
        | 0 => rfl
        | 1 => rfl
        | 2 => rfl
        | 3 => rfl
        | 4 => rfl
        | 5 => rfl
        | 6 => rfl
        | 7 => rfl
        | n + 8 => rfl
end Go.Ab.T
end
