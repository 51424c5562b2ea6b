/-
  A part of the proofs over this seat.
  (The texts KlM5 KlK17 KlK18, one behind the other.)
-/
import Derived.Test.YtcebfhalhcnnnaaP7
import Derived.Test.YtcebfhalhcnnnaaP5
set_option linter.unusedSimpArgs false
set_option linter.unusedVariables false
set_option linter.unusedSectionVars false
section
namespace Go.Ab.T
/-! ### A season -/
/-- The days before which the lamp is changed, if it lasts k hours more, a new one gn hours (s: each day must be one that a new lamp can show). -/
def chF (s : Bool) (gn : Int) : Nat → Int → List Int → Option (List Int)
  | _, _, [] => some []
  | d, k, h :: r => if s = true ∧ gn < h then none else if k < h then (if gn < h then none else (chF s gn (d + 1) (gn - h) r).map fun c => (d : Int) :: c) else chF s gn (d + 1) (k - h) r
theorem chF_cons (s : Bool) (gn : Int) (d : Nat) (k h : Int) (r : List Int) : chF s gn d k (h :: r) = if s = true ∧ gn < h then none else if k < h then (if gn < h then none else (chF s gn (d + 1) (gn - h) r).map fun c => (d : Int) :: c) else chF s gn (d + 1) (k - h) r := rfl
def hdB (ch : List Int) (d : Nat) : Bool := match ch with | [] => false | c :: _ => c == (d : Int)
/-- Can each day be shown with some changes? -/
def shF (gn : Int) : Nat → Int → List Int → List Int → Bool
  | _, _, [], ch => ch.isEmpty
  | d, k, h :: r, ch => if hdB ch d = true then decide (h ≤ gn) && shF gn (d + 1) (gn - h) r ch.tail else decide (h ≤ k) && shF gn (d + 1) (k - h) r ch
theorem chF_ge {s : Bool} {gn : Int} : ∀ (days : List Int) (d : Nat) (k : Int) (c : List Int), chF s gn d k days = some c → c.length ≤ days.length ∧ ∀ x ∈ c, (d : Int) ≤ x ∧ x < (d : Int) + days.length
  | [], d, k, c, h => by
    cases h; exact ⟨Nat.le_refl _, fun x hx => by cases hx⟩
  | h :: r, d, k, c, e => by
    unfold chF at e
    split at e
    · cases e
    split at e
    · split at e
      · cases e
      · obtain ⟨c', h1, rfl⟩ := Option.map_eq_some_iff.1 e
        obtain ⟨h2, h3⟩ := chF_ge r (d + 1) _ c' h1
        refine ⟨by simp only [List.length_cons]; omega, fun x hx => ?_⟩
        rw [List.length_cons]
        rcases List.mem_cons.1 hx with rfl | hx
        · omega
        · have := h3 x hx; omega
    · obtain ⟨h2, h3⟩ := chF_ge r (d + 1) _ c e
      refine ⟨by simp only [List.length_cons]; omega, fun x hx => ?_⟩
      have := h3 x hx
      rw [List.length_cons]; omega
theorem hdB_ge {c : List Int} {d : Nat} (h : ∀ x ∈ c, ((d + 1 : Nat) : Int) ≤ x) : hdB c d = false := by
  cases c with
  | nil => rfl
  | cons x r =>
    have := h x (by simp)
    show (x == (d : Int)) = false
    rw [beq_eq_false_iff_ne]; omega
/-- With these changes each day can be shown. -/
theorem chF_shown {s : Bool} {gn : Int} : ∀ (days : List Int) (d : Nat) (k : Int) (c : List Int), chF s gn d k days = some c → shF gn d k days c = true
  | [], d, k, c, h => by cases h; rfl
  | h :: r, d, k, c, e => by
    unfold chF at e
    split at e
    · cases e
    split at e
    · split at e
      · cases e
      · rename_i h1
        obtain ⟨c', h2, rfl⟩ := Option.map_eq_some_iff.1 e
        have ih := chF_shown r (d + 1) _ c' h2
        unfold shF
        rw [show hdB ((d : Int) :: c') d = true from by show ((d : Int) == (d : Int)) = true; simp, if_pos rfl, List.tail_cons, ih, decide_eq_true (by omega)]; rfl
    · rename_i h1
      have ih := chF_shown r (d + 1) _ c e
      have hg := (chF_ge r (d + 1) _ c e).2
      unfold shF
      rw [hdB_ge (fun x hx => (hg x hx).1), if_neg (by decide), ih, decide_eq_true (by omega)]; rfl
/-- With fewer ones some day cannot. -/
theorem chF_few {s : Bool} {gn : Int} : ∀ (days : List Int) (d : Nat) (k k' : Int) (c ch : List Int), (∀ h ∈ days, 0 ≤ h) → chF s gn d k days = some c → shF gn d k' days ch = true → (k' ≤ k → c.length ≤ ch.length) ∧ (k' ≤ gn → c.length ≤ ch.length + 1)
  | [], d, k, k', c, ch, h0, e, hs => by
    cases e; exact ⟨fun _ => Nat.zero_le _, fun _ => Nat.zero_le _⟩
  | h :: r, d, k, k', c, ch, h0, e, hs => by
    have hh := h0 h (by simp)
    have h0' : ∀ x ∈ r, 0 ≤ x := fun x hx => h0 x (by simp [hx])
    unfold chF at e
    split at e
    · cases e
    unfold shF at hs
    cases hb : hdB ch d
    · rw [hb, if_neg (by decide), Bool.and_eq_true] at hs
      have hk' := of_decide_eq_true hs.1
      split at e
      · rename_i h1
        split at e
        · cases e
        · obtain ⟨c', h2, rfl⟩ := Option.map_eq_some_iff.1 e
          have ih := chF_few r (d + 1) _ _ c' ch h0' h2 hs.2
          refine ⟨fun _ => by omega, fun hg => ?_⟩
          have := ih.1 (by omega)
          rw [List.length_cons]; omega
      · rename_i h1
        have ih := chF_few r (d + 1) _ _ c ch h0' e hs.2
        exact ⟨fun hk => ih.1 (by omega), fun hg => ih.2 (by omega)⟩
    · rw [hb, if_pos rfl, Bool.and_eq_true] at hs
      have hgn := of_decide_eq_true hs.1
      have hch : ch.length = ch.tail.length + 1 := by
        cases ch with
        | nil => cases hb
        | cons a b => rfl
      split at e
      · rename_i h1
        split at e
        · cases e
        · obtain ⟨c', h2, rfl⟩ := Option.map_eq_some_iff.1 e
          have ih := chF_few r (d + 1) _ _ c' ch.tail h0' h2 hs.2
          have := ih.1 (Int.le_refl _)
          rw [List.length_cons]
          exact ⟨fun _ => by omega, fun _ => by omega⟩
      · rename_i h1
        have ih := chF_few r (d + 1) _ _ c ch.tail h0' e hs.2
        have := ih.2 (by omega)
        exact ⟨fun _ => by omega, fun _ => by omega⟩
/-- With one of them a day later some day cannot. -/
theorem chF_late {s : Bool} {gn : Int} : ∀ (days : List Int) (d : Nat) (k : Int) (c : List Int) (i : Nat) (x : Int), chF s gn d k days = some c → c[i]? = some x → shF gn d k days (c.set i (x + 1)) = false
  | [], d, k, c, i, x, e, hi => by
    cases e; cases hi
  | h :: r, d, k, c, i, x, e, hi => by
    unfold chF at e
    split at e
    · cases e
    split at e
    · rename_i h1
      split at e
      · cases e
      · obtain ⟨c', h2, rfl⟩ := Option.map_eq_some_iff.1 e
        cases i with
        | zero =>
          have hx : (d : Int) = x := by simpa using hi
          subst hx
          rw [List.set_cons_zero]
          unfold shF
          rw [show hdB (((d : Int) + 1) :: c') d = false from by
            show (((d : Int) + 1) == (d : Int)) = false
            rw [beq_eq_false_iff_ne]; omega, if_neg (by decide), decide_eq_false (by omega)]; rfl
        | succ j =>
          have hj : c'[j]? = some x := by simpa using hi
          have ih := chF_late r (d + 1) _ c' j x h2 hj
          rw [List.set_cons_succ]
          unfold shF
          rw [show hdB ((d : Int) :: c'.set j (x + 1)) d = true from by show ((d : Int) == (d : Int)) = true; simp, if_pos rfl, List.tail_cons, ih, Bool.and_false]
    · have ih := chF_late r (d + 1) _ c i x e hi
      have hg := (chF_ge r (d + 1) _ c e).2
      unfold shF
      rw [hdB_ge (fun y hy => by
        rcases List.mem_or_eq_of_mem_set hy with hy | rfl
        · exact (hg y hy).1
        · have := (hg x (List.mem_of_getElem? hi)).1; omega), if_neg (by decide), ih, Bool.and_false]
theorem chF_none {s : Bool} {gn : Int} : ∀ (days : List Int) (d : Nat) (k : Int), chF s gn d k days = none → ∃ h ∈ days, gn < h
  | [], d, k, e => by cases e
  | h :: r, d, k, e => by
    unfold chF at e
    split at e
    · rename_i h1
      exact ⟨h, by simp, h1.2⟩
    split at e
    · split at e
      · rename_i h1; exact ⟨h, by simp, h1⟩
      · rw [Option.map_eq_none_iff] at e
        obtain ⟨x, hx, h2⟩ := chF_none r _ _ e
        exact ⟨x, by simp [hx], h2⟩
    · obtain ⟨x, hx, h2⟩ := chF_none r _ _ e
      exact ⟨x, by simp [hx], h2⟩
/-! ### How long a lamp is good -/
def skN (l : Lm) (xs : List Ln) (a : Int) : Int := if xs.isEmpty = true then -1 else (bndM (lastK l a) xs).1.lo
def csM (l : Lm) (xs : List Ln) (b h : Int) : Bool := decide ((0 : Int) < (xs.length : Int)) && (decide (b + h ≤ l.ra) && xs.all (kpR l b (b + h)))
theorem skN_le {l : Lm} (hv : LV l) {xs : List Ln} {a : Int} (h0 : 0 ≤ a) : skN l xs a ≤ l.ra ∧ -1 ≤ skN l xs a := by
  unfold skN
  have := hv.r0
  split
  · omega
  · rename_i h
    have hne : xs ≠ [] := fun he => h (by rw [he]; rfl)
    obtain ⟨a1, _, ⟨a2, _⟩, _⟩ := un_spec hv h0 hne
    omega
theorem cs_eq {l : Lm} (hv : LV l) {xs : List Ln} {a b h : Int} (h0 : 0 ≤ a) (hab : a ≤ b) (hb : b = a ∨ b ≤ skN l xs a) (hh : 0 ≤ h) : csM l xs b h = decide (h ≤ skN l xs a - b) := by
  unfold csM
  cases he : xs with
  | nil =>
    rw [show decide ((0 : Int) < (([] : List Ln).length : Int)) = false from rfl, Bool.false_and]
    symm
    rw [decide_eq_false_iff_not]
    show ¬ h ≤ -1 - b
    omega
  | cons y r =>
    rw [← he]
    have hne : xs ≠ [] := by rw [he]; exact fun h => by cases h
    have hem : ¬ xs.isEmpty = true := by rw [he, List.isEmpty_cons]; decide
    rw [decide_eq_true (show (0 : Int) < (xs.length : Int) by rw [he, List.length_cons]; omega), Bool.true_and]
    obtain ⟨a1, _, ⟨a2, _⟩, a3⟩ := un_spec hv h0 hne
    unfold skN at hb ⊢
    rw [if_neg hem] at hb ⊢
    generalize (bndM (lastK l a) xs).1.lo = g at *
    rw [Bool.eq_iff_iff, Bool.and_eq_true, decide_eq_true_eq, decide_eq_true_eq]
    constructor
    · rintro ⟨h1, h2⟩
      have h3 : xs.all (kpR l a (b + h)) = true := by
        rw [List.all_eq_true] at h2 ⊢
        intro x hx
        have p := kpR_iff.1 (h2 x hx)
        rcases hb with hb | hb
        · subst hb; exact h2 x hx
        · have h4 : xs.all (kpR l a b) = true := by
            rw [(a3 b hab (by omega)).1]; exact decide_eq_true hb
          have q := kpR_iff.1 (List.all_eq_true.1 h4 x hx)
          refine kpR_iff.2 fun j j0 j1 => ?_
          by_cases hj : j < b
          · exact q j j0 (by omega)
          · exact p j (by omega) j1
      rw [(a3 (b + h) (by omega) h1).1] at h3
      have := of_decide_eq_true h3
      omega
    · intro h1
      refine ⟨by omega, ?_⟩
      have h3 : xs.all (kpR l a (b + h)) = true := by
        rw [(a3 (b + h) (by omega) (by omega)).1]; exact decide_eq_true (by omega)
      rw [List.all_eq_true] at h3 ⊢
      intro x hx
      have p := kpR_iff.1 (h3 x hx)
      exact kpR_iff.2 fun j j0 j1 => p j (by omega) j1
end Go.Ab.T
end

section
namespace Go.Ab.T
set_option maxRecDepth 8000
set_option maxHeartbeats 4000000
theorem bnd_some (num : Ln → Int) (xs : List Ln) : (bndM num xs).2 = !xs.isEmpty := by
  cases xs with
  | nil => rfl
  | cons x r => rw [bndM_cons]; rfl
theorem surelyKept_ok {l : Lm} {g : FuncId} {cap : List AV} {xs : List Ln} (hs : Sq g cap xs) (hr : l.ra ≤ 40) (hx : ∀ x ∈ xs, NV x) {a : Int} (h0 : 0 ≤ a) (h1 : a ≤ 40) (hsn : ∀ (m : Mem) (q : Nat), Ab.snap m (q + 8) (.fn g [] cap) = .fn g [] cap) (hh : ∀ q, hot (q + 8) (.fn g [] cap) = false) : RV ft 65 [.fn g [] cap, encL l, I64 a] (I64 (skN l xs a)) := by
  refine RV_of ft65 rfl ?_
  simp only [c65, r65]
  have hB := bounds_ok hs (cK l a) (lastK l a) rfl rfl rfl (fun x hx' st K => cK_app hr (hx x hx') h0 h1 st K)
  rw [bnd_some] at hB
  obtain ⟨f, hf⟩ : ∃ f, f = AV.fn g [] cap := ⟨_, rfl⟩
  rw [← hf] at hB hsn hh ⊢
  unfold skN
  cases he : xs.isEmpty
  · rw [he] at hB
    simp only [go_sem, Nat.reduceEqDiff, Nat.reduceAdd, Nat.reduceLT, Nat.reduceLeDiff, reduceIte, WB62, WVH_eq (lastKept_ok l a), WB45, hsn _ 4, hh 4, WVH_eq hB, true_and, SCells, Bool.false_eq_true, if_false]
  · rw [he] at hB
    simp only [go_sem, Nat.reduceEqDiff, Nat.reduceAdd, Nat.reduceLT, Nat.reduceLeDiff, reduceIte, WB62, WVH_eq (lastKept_ok l a), WB45, hsn _ 4, hh 4, WVH_eq hB, true_and, SCells, if_true]
/-- What a search for changes gives. -/
def chR (o : Option (List Int)) : List Int × Bool := match o with | none => ([], false) | some c => (c, true)
theorem chF_all {gn : Int} : ∀ (days : List Int) (d : Nat) (k : Int), (∀ h ∈ days, h ≤ gn) → ∃ c, chF true gn d k days = some c
  | [], _, _, _ => ⟨[], rfl⟩
  | h :: r, d, k, hg => by
    have h1 := hg h (by simp)
    have hr : ∀ y ∈ r, y ≤ gn := fun y hy => hg y (by simp [hy])
    rw [chF_cons, if_neg (by omega)]
    by_cases c1 : k < h
    · rw [if_pos c1, if_neg (by omega)]
      obtain ⟨c, hc⟩ := chF_all r (d + 1) (gn - h) hr
      exact ⟨(d : Int) :: c, by rw [hc]; rfl⟩
    · rw [if_neg c1]
      exact chF_all r (d + 1) (k - h) hr
theorem chF_bad {gn : Int} : ∀ (days : List Int) (d : Nat) (k : Int), (∃ h ∈ days, gn < h) → chF true gn d k days = none
  | [], _, _, h => by obtain ⟨_, h, _⟩ := h; cases h
  | h :: r, d, k, hg => by
    rw [chF_cons]
    by_cases c0 : gn < h
    · rw [if_pos ⟨rfl, c0⟩]
    have hr : ∃ y ∈ r, gn < y := by
      obtain ⟨y, hy, hyg⟩ := hg
      rcases List.mem_cons.1 hy with e | hy
      · subst e; exact absurd hyg c0
      · exact ⟨y, hy, hyg⟩
    rw [if_neg (by omega)]
    by_cases c1 : k < h
    · rw [if_pos c1, if_neg c0, chF_bad r (d + 1) (gn - h) hr]; rfl
    · rw [if_neg c1]
      exact chF_bad r (d + 1) (k - h) hr
theorem changes_ok (days : List Int) (hl : days.length ≤ 30) (hd : ∀ h ∈ days, 0 ≤ h ∧ h ≤ 40) {b g gn : Int} (hgn : ∀ h ∈ days, h ≤ gn) (b0 : 0 ≤ b) (b1 : b ≤ 40) (g1 : g ≤ 40) (n1 : gn ≤ 40) {c0 : List Int} (hc0 : chF true gn 0 (g - b) days = some c0) : RV ft 68 [encIs days, I64 b, I64 g, I64 gn] (encIs c0) := by
  refine RV_of ft68 rfl ?_
  simp only [c68, r68]
  simp only [go_sem, Nat.reduceEqDiff, Nat.reduceAdd, Nat.reduceLT, Nat.reduceLeDiff, reduceIte]
  refine WL_inv (α := Nat × Int × Int × List Int × List Int × AV) (fun q e mm => e 1 = I64 q.2.1 ∧ e 2 = I64 q.2.2.1 ∧ e 3 = I64 gn ∧ e 9 = q.2.2.2.2.2 ∧ e 12 = encIs days ∧ e 13 = I64 days.length ∧ e 14 = I64 q.1 ∧ days.drop q.1 = q.2.2.2.2.1 ∧ 0 ≤ q.2.1 ∧ q.2.1 ≤ 80 ∧ q.2.2.1 ≤ 40 ∧ q.2.2.2.1.length ≤ q.1 ∧ (q.2.2.2.2.1 = [] ∨ q.2.1 ≤ 40) ∧ (chF true gn q.1 (q.2.2.1 - q.2.1) q.2.2.2.2.1).map (q.2.2.2.1 ++ ·) = some c0 ∧ ∃ bl tk, mm = ⟨bl, tk⟩ ∧ Acc 3 (q.2.2.2.1.map I64) q.2.2.2.2.2 tk) (fun q => q.2.2.2.2.1.length) (0, b, g, [], days, .sl [] .tight) ?_ ?_
  · simp only [go_sem, Nat.reduceEqDiff, Nat.reduceAdd, Nat.reduceLT, Nat.reduceLeDiff, reduceIte]
    refine ⟨trivial, trivial, trivial, trivial, trivial, trivial, rfl, trivial, b0, by omega, g1, trivial, .inr b1, ?_, _, _, rfl, Acc_nil 3⟩
    rw [hc0]; rfl
  rintro ⟨k, b, g, acc, r, v⟩ e m ⟨e1, e2, e3, e10, e13, e14, e15, hd0, b0, b1, g1, hac, hb4, hq, bl, tk, rfl, hA⟩
  dsimp only at e1 e2 e10 e15 hd0 b0 b1 g1 hac hq hA hb4
  cases r with
  | nil =>
    have h3 := drop_nil hd0
    simp only [go_sem, Nat.reduceEqDiff, Nat.reduceAdd, Nat.reduceLT, Nat.reduceLeDiff, reduceIte, e1, e2, e3, e10, e13, e14, e15, dec_ge h3]
    rw [show chF true gn k (g - b) [] = some [] from rfl, Option.map_some, List.append_nil] at hq
    rw [hA.snap, ← Option.some.inj hq]
    show AV.sl ((acc.map I64).map (Ab.snap _ 11)) .unk = _
    rw [List.map_map]; rfl
  | cons h r =>
    obtain ⟨hk, hd2, hlt⟩ := drop_cons hd0
    have hh := hd h (List.mem_of_getElem? hk)
    have hn := hgn h (List.mem_of_getElem? hk)
    have hb : b ≤ 40 := by rcases hb4 with h | h; exact absurd h (by simp); exact h
    have w1 : IntKind.i64.wrap (b + h) = b + h := wrap_i64 _ (by omega) (by omega)
    have w2 : IntKind.i64.wrap (0 + h) = h := by rw [wrap_i64 _ (by omega) (by omega)]; omega
    rw [chF_cons, if_neg (by omega)] at hq
    cases c1 : decide (g < b + h)
    · have c1' := of_decide_eq_false c1
      rw [if_neg (by omega)] at hq
      simp only [go_sem, Nat.reduceEqDiff, Nat.reduceAdd, Nat.reduceLT, Nat.reduceLeDiff, reduceIte, e1, e2, e3, e10, e13, e14, e15, dec_lt hlt, Is_idx hk, w1, c1, wrap_n1 k (by omega)]
      refine Nx_of (k + 1, b + h, g, acc, r, v) (by simp) ?_
      simp only [go_sem, Nat.reduceEqDiff, Nat.reduceAdd, Nat.reduceLT, Nat.reduceLeDiff, reduceIte, e2, e3, e10, e13, e14]
      refine ⟨trivial, trivial, trivial, trivial, trivial, trivial, trivial, hd2, by omega, by omega, g1, by omega, .inr (by omega), ?_, _, _, rfl, hA⟩
      rw [← hq, show g - (b + h) = g - b - h by omega]
    · have c1' := of_decide_eq_true c1
      rw [if_pos (by omega), if_neg (by omega)] at hq
      simp only [go_sem, Nat.reduceEqDiff, Nat.reduceAdd, Nat.reduceLT, Nat.reduceLeDiff, reduceIte, e1, e2, e3, e10, e13, e14, e15, dec_lt hlt, Is_idx hk, w1, c1]
      refine hA.app (cellsI acc) rfl (by rw [List.length_map]; unfold limit; omega) fun v' tk' hA' => ?_
      simp only [go_sem, Nat.reduceEqDiff, Nat.reduceAdd, Nat.reduceLT, Nat.reduceLeDiff, reduceIte, e1, e2, e3, e10, e13, e14, e15, w2, wrap_n1 k (by omega)]
      refine Nx_of (k + 1, h, gn, acc ++ [(k : Int)], r, v') (by simp) ?_
      simp only [go_sem, Nat.reduceEqDiff, Nat.reduceAdd, Nat.reduceLT, Nat.reduceLeDiff, reduceIte, e3, e13, e14]
      refine ⟨trivial, trivial, trivial, trivial, trivial, trivial, trivial, hd2, by omega, by omega, n1, by rw [List.length_append, List.length_singleton]; omega, .inr (by omega), ?_, _, _, rfl, by simpa using hA'⟩
      rw [← hq]
      cases chF true gn (k + 1) (gn - h) r with
      | none => rfl
      | some c => simp
def cQ (gn : Int) : AV := .fn 85 [] [.pv (I64 gn) 0]
theorem canShowC_ok (gn : Int) : RV ft 67 [I64 gn] (cQ gn) := by
  refine RV_of ft67 rfl ?_
  simp only [c67, r67]
  simp only [go_sem, Nat.reduceEqDiff, Nat.reduceAdd, Nat.reduceLT, Nat.reduceLeDiff, reduceIte]
  rfl
theorem cQ_run (gn h : Int) : RV ft 85 [I64 h, .pv (I64 gn) 0] (.bool (decide (h ≤ gn))) := by
  refine RV_of ft85 rfl ?_
  simp only [c85, r85]
  simp only [go_sem, Nat.reduceEqDiff, Nat.reduceAdd, Nat.reduceLT, Nat.reduceLeDiff, reduceIte]
theorem allShow_ok (days : List Int) (gn : Int) (hl : days.length < 1073741824) : RV ft 66 [encIs days, cQ gn] (.bool (days.all fun h => decide (h ≤ gn))) :=
  allI_ok days _ (fun h => decide (h ≤ gn)) hl rfl rfl (fun _ _ => rfl) (fun _ => rfl) fun x _ e m K hK => by
    rw [cQ, WAH_fn]
    simp only [List.nil_append, List.cons_append]
    simp only [go_sem, Nat.reduceEqDiff, Nat.reduceAdd, Nat.reduceLT, Nat.reduceLeDiff, reduceIte, WB85, WVH_eq (cQ_run gn x), true_and]
    exact hK
theorem snCQ (m : Mem) (q : Nat) (h : Int) : Ab.snap m (q + 7) (cQ h) = cQ h := rfl
theorem hotCQ (q : Nat) (h : Int) : hot (q + 7) (cQ h) = false := rfl
def chM (s : Bool) (l : Lm) (b : Int) (days : List Int) : List Int × Int := if okL l = true then (if (hrR b && (decide ((days.length : Int) ≤ 30) && days.all hrR)) = true then (match chF s (skN l (linM l) 0) 0 (skN l (truM l) b - b) days with | none => ([], 3) | some c => (c, 0)) else ([], 1)) else ([], 90)
theorem Changes_ok (l : Lm) (b : Int) (days : List Int) (hl : l.gs.length < 1073741824) (hdl : days.length < 1073741824) : RV ft 30 [encL l, I64 b, encIs days] (.tup [encIs (chM true l b days).1, I64 (chM true l b days).2]) := by
  refine RV_of ft30 rfl ?_
  simp only [c30, r30]
  have hV := validLamp_ok l hl
  unfold chM
  cases ho : okL l
  · rw [ho] at hV
    simp only [go_sem, Nat.reduceEqDiff, Nat.reduceAdd, Nat.reduceLT, Nat.reduceLeDiff, reduceIte, WB49, WVH_eq hV, true_and, Bool.false_eq_true, if_false]
    rfl
  have hv := okL_iff.1 ho
  rw [ho] at hV
  have hH := isHour_ok b
  cases hb : hrR b
  · rw [hb] at hH
    simp only [go_sem, Nat.reduceEqDiff, Nat.reduceAdd, Nat.reduceLT, Nat.reduceLeDiff, reduceIte, WB49, WVH_eq hV, WB63, WVH_eq hH, true_and, Bool.false_eq_true, if_false, if_true]
    rfl
  rw [hb] at hH
  have hD := validDays_ok days hdl
  cases hdd : (decide ((days.length : Int) ≤ 30) && days.all hrR)
  · rw [hdd] at hD
    simp only [go_sem, Nat.reduceEqDiff, Nat.reduceAdd, Nat.reduceLT, Nat.reduceLeDiff, reduceIte, WB49, WVH_eq hV, WB63, WVH_eq hH, WB64, WVH_eq hD, true_and, Bool.false_eq_true, if_false, if_true]
    rfl
  rw [hdd] at hD
  rw [Bool.and_eq_true, decide_eq_true_eq, List.all_eq_true] at hdd
  obtain ⟨b0, b1⟩ := inR_iff.1 (show inR b 0 40 = true from hb)
  have hr1 := hv.r1
  have hS1 := surelyKept_ok (l := l) (truths_sq hv) hr1 (fun x hx => linM_NV hv (truM_lin hx)) b0 b1 (fun m q => snCT m q l) (fun q => hotCT q l)
  have hS2 := surelyKept_ok (l := l) (lines_sq hv) hr1 (fun x hx => linM_NV hv hx) (Int.le_refl 0) (by omega) (fun m q => snCL m (q + 2) l) (fun q => hotCL (q + 2) l)
  rw [show AV.fn 70 [] [.pv (encL l) 0, .pv (cW l.gs) 0] = cT l from rfl] at hS1
  rw [show AV.fn 71 [] [.pv (encL l) 0] = cL l from rfl] at hS2
  have q1 := skN_le hv (xs := truM l) b0
  have q2 := skN_le hv (xs := linM l) (Int.le_refl 0)
  have hA := allShow_ok days (skN l (linM l) 0) hdl
  have hQ := canShowC_ok (skN l (linM l) 0)
  cases hda : (days.all fun h => decide (h ≤ skN l (linM l) 0))
  · rw [hda] at hA
    rw [List.all_eq_false] at hda
    obtain ⟨y, hy, hyg⟩ := hda
    rw [chF_bad days 0 _ ⟨y, hy, by rw [decide_eq_true_eq] at hyg; omega⟩]
    simp only [go_sem, Nat.reduceEqDiff, Nat.reduceAdd, Nat.reduceLT, Nat.reduceLeDiff, reduceIte, WB49, WVH_eq hV, WB63, WVH_eq hH, WB64, WVH_eq hD, WB46, WVH_eq (lines_ok l), WB65, WVH_eq hS2, WB67, WVH_eq hQ, WB66, snCQ, hotCQ, WVH_eq hA, true_and, if_true]
    rfl
  · rw [hda] at hA
    rw [List.all_eq_true] at hda
    have hgn : ∀ h ∈ days, h ≤ skN l (linM l) 0 := fun h hh => of_decide_eq_true (hda h hh)
    obtain ⟨c, hc⟩ := chF_all days 0 (skN l (truM l) b - b) hgn
    have hC := changes_ok days (by omega) (fun h hh => inR_iff.1 (show inR h 0 40 = true from hdd.2 h hh)) (b := b) (g := skN l (truM l) b) (gn := skN l (linM l) 0) hgn b0 b1 (by omega) (by omega) hc
    rw [hc]
    simp only [go_sem, Nat.reduceEqDiff, Nat.reduceAdd, Nat.reduceLT, Nat.reduceLeDiff, reduceIte, WB49, WVH_eq hV, WB63, WVH_eq hH, WB64, WVH_eq hD, WB43, WVH_eq (truths_ok l), WB46, WVH_eq (lines_ok l), WB65, WVH_eq hS1, WVH_eq hS2, WB67, WVH_eq hQ, WB66, snCQ, hotCQ, WVH_eq hA, WB68, WVH_eq hC, true_and, if_true]
end Go.Ab.T
end

section
namespace Go.Ab.T
set_option maxRecDepth 8000
set_option maxHeartbeats 4000000
def cdM (l : Lm) (b : Int) (days : List Int) : Int := if okL l = true then (if (hrR b && (!decide ((30 : Int) < (days.length : Int)) && days.all hrR)) = true then 0 else 1) else 90
theorem CheckDays_ok (l : Lm) (b : Int) (days : List Int) (hl : l.gs.length < 1073741824) : RV ft 38 [encL l, I64 b, encIs days] (I64 (cdM l b days)) := by
  refine RV_of ft38 rfl ?_
  simp only [c38, r38]
  have hC := CheckR_ok l hl
  unfold cdM
  cases ho : okL l
  · rw [ho] at hC
    simp only [go_sem, Nat.reduceEqDiff, Nat.reduceAdd, Nat.reduceLT, Nat.reduceLeDiff, reduceIte, WB22, WVH_eq hC, true_and, Bool.false_eq_true, if_false, show ((90 : Int) != 0) = true from rfl]
  rw [ho] at hC
  have hq : ∀ n, inR n 0 40 = hrR n := fun _ => rfl
  have z : ((0 : Int) != 0) = false := rfl
  cases hb : hrR b
  · simp only [go_sem, Nat.reduceEqDiff, Nat.reduceAdd, Nat.reduceLT, Nat.reduceLeDiff, reduceIte, WB22, WVH_eq hC, WB55, WVH_eq (within_ok _ _ _), hq, hb, true_and, z, Bool.false_eq_true, if_false, if_true]
  cases h30 : decide ((30 : Int) < (days.length : Int))
  case true => simp only [go_sem, Nat.reduceEqDiff, Nat.reduceAdd, Nat.reduceLT, Nat.reduceLeDiff, reduceIte, WB22, WVH_eq hC, WB55, WVH_eq (within_ok _ _ _), hq, hb, h30, true_and, z, Bool.false_eq_true, if_false, if_true]
  have h30' := of_decide_eq_false h30
  simp only [go_sem, Nat.reduceEqDiff, Nat.reduceAdd, Nat.reduceLT, Nat.reduceLeDiff, reduceIte, WB22, WVH_eq hC, WB55, WVH_eq (within_ok _ _ _), hq, hb, h30, true_and, z, if_true]
  refine WL_inv (α := Nat × List Int) (fun q e mm => e 2 = encIs days ∧ e 7 = I64 q.1 ∧ days.drop q.1 = q.2 ∧ q.2.all hrR = days.all hrR) (fun q => q.2.length) (0, days) ?_ ?_
  · simp only [go_sem, Nat.reduceEqDiff, Nat.reduceAdd, Nat.reduceLT, Nat.reduceLeDiff, reduceIte]
    ((repeat' apply And.intro) <;> first | trivial | rfl | omega | assumption)
  rintro ⟨k, r⟩ e m ⟨g2, g7, hd, hq'⟩
  dsimp only at g7 hd hq'
  cases r with
  | nil =>
    have h3 := drop_nil hd
    simp only [go_sem, Nat.reduceEqDiff, Nat.reduceAdd, Nat.reduceLT, Nat.reduceLeDiff, reduceIte, g2, g7, dec_ge h3]
    rw [← hq']; rfl
  | cons y r =>
    obtain ⟨hk, hd2, hlt⟩ := drop_cons hd
    rw [List.all_cons] at hq'
    cases hy : hrR y
    · simp only [go_sem, Nat.reduceEqDiff, Nat.reduceAdd, Nat.reduceLT, Nat.reduceLeDiff, reduceIte, g2, g7, dec_lt hlt, Is_idx hk, WB55, WVH_eq (within_ok _ _ _), hq, hy, true_and]
      rw [← hq', hy]; rfl
    · simp only [go_sem, Nat.reduceEqDiff, Nat.reduceAdd, Nat.reduceLT, Nat.reduceLeDiff, reduceIte, g2, g7, dec_lt hlt, Is_idx hk, WB55, WVH_eq (within_ok _ _ _), hq, hy, true_and, wrap_n1 k (by omega)]
      refine Nx_of (k + 1, r) (by simp) ?_
      simp only [go_sem, Nat.reduceEqDiff, Nat.reduceAdd, Nat.reduceLT, Nat.reduceLeDiff, reduceIte, g2]
      exact ⟨trivial, trivial, hd2, by rw [← hq', hy]; rfl⟩
theorem CanShow_ok {l : Lm} (hv : LV l) (xs : List Ln) (hl : xs.length < 1073741824) (hx : ∀ x ∈ xs, NV x) {b h : Int} (b0 : 0 ≤ b) (b1 : b ≤ 1000) (h0 : 0 ≤ h) (h1 : h ≤ 1000) : RV ft 39 [encL l, encNs xs, I64 b, I64 h] (.bool (csM l xs b h)) := by
  refine RV_of ft39 rfl ?_
  simp only [c39, r39]
  unfold csM
  have w : IntKind.i64.wrap (b + h) = b + h := wrap_i64 _ (by omega) (by omega)
  cases c1 : decide ((0 : Int) < (xs.length : Int))
  · simp only [go_sem, Nat.reduceEqDiff, Nat.reduceAdd, Nat.reduceLT, Nat.reduceLeDiff, reduceIte, c1]
  cases c2 : decide (b + h ≤ l.ra)
  · simp only [go_sem, Nat.reduceEqDiff, Nat.reduceAdd, Nat.reduceLT, Nat.reduceLeDiff, reduceIte, LCells, c1, c2, w]
  have hr := hv.r1
  have hk := kept_ok l xs hl hx b0 (show b + h ≤ 80 by have := of_decide_eq_true c2; omega)
  simp only [go_sem, Nat.reduceEqDiff, Nat.reduceAdd, Nat.reduceLT, Nat.reduceLeDiff, reduceIte, LCells, c1, c2, w, WB61, WVH_eq hk, true_and, eqN, kcN_all]
theorem New_ok {l : Lm} (hv : LV l) : RV ft 40 [encL l] (encNs (linM l)) := by
  refine RV_of ft40 rfl ?_
  simp only [c40, r40]
  simp only [go_sem, Nat.reduceEqDiff, Nat.reduceAdd, Nat.reduceLT, Nat.reduceLeDiff, reduceIte, WB48, WVH_eq (all_ok hv), true_and]
theorem Old_ok {l : Lm} (hv : LV l) : RV ft 69 [encL l] (encNs (truM l)) := by
  refine RV_of ft69 rfl ?_
  simp only [c69, r69]
  simp only [go_sem, Nat.reduceEqDiff, Nat.reduceAdd, Nat.reduceLT, Nat.reduceLeDiff, reduceIte, WB44, WVH_eq (truthsR_ok hv), true_and]
/-- A season. -/
def encE (b : Int) (days ch : List Int) : AV := .agg [I64 b, encIs days, encIs ch]
theorem ECells (b : Int) (days ch : List Int) : (encE b days ch).cells = [I64 b, encIs days, encIs ch] := rfl
theorem EEta (b : Int) (days ch : List Int) : AV.agg [I64 b, encIs days, encIs ch] = encE b days ch := rfl
theorem snE (m : Mem) (q : Nat) (b : Int) (days ch : List Int) : Ab.snap m (q + 3) (encE b days ch) = encE b days ch := by
  show AV.agg [I64 b, Ab.snap m (q + 2) (encIs days), Ab.snap m (q + 2) (encIs ch)] = _
  rw [snIs, snIs]; rfl
theorem hotE (q : Nat) (b : Int) (days ch : List Int) : hot (q + 3) (encE b days ch) = false := by
  show (false || (hot (q + 2) (encIs days) || (hot (q + 2) (encIs ch) || false))) = false
  rw [hotIs, hotIs]; rfl
attribute [go_sem] snE hotE
/-- The lamp that hangs there: which lines are known, since when. -/
def StL (l : Lm) (b0 : Int) (xs : List Ln) (a : Int) : Prop := (xs = truM l ∧ a = b0) ∨ (xs = linM l ∧ a = 0)
theorem StL.nv {l : Lm} (hv : LV l) {b0 a : Int} {xs : List Ln} (h : StL l b0 xs a) : (∀ x ∈ xs, NV x) ∧ xs.length ≤ 4010 := by
  rcases h with ⟨rfl, _⟩ | ⟨rfl, _⟩
  · exact ⟨fun x hx => linM_NV hv (truM_lin hx), truM_len hv⟩
  · exact ⟨fun x hx => linM_NV hv hx, linM_len hv⟩
theorem shF_cons (gn : Int) (d : Nat) (k h : Int) (r ch : List Int) : shF gn d k (h :: r) ch = if hdB ch d = true then decide (h ≤ gn) && shF gn (d + 1) (gn - h) r ch.tail else decide (h ≤ k) && shF gn (d + 1) (k - h) r ch := rfl
theorem shown_ok {l : Lm} (hv : LV l) {b0 : Int} (b00 : 0 ≤ b0) (b01 : b0 ≤ 40) (days ch0 ch : List Int) (hdl : days.length ≤ 30) (hd : ∀ h ∈ days, 0 ≤ h ∧ h ≤ 40) (hcl : ch.length < 1073741824) :
    RV ft 41 [encL l, encE b0 days ch0, encIs ch] (.bool (shF (skN l (linM l) 0) 0 (skN l (truM l) b0 - b0) days ch)) := by
  refine RV_of ft41 rfl ?_
  simp only [c41, r41]
  have hr1 := hv.r1
  have hgn := skN_le hv (xs := linM l) (Int.le_refl 0)
  generalize hG : skN l (linM l) 0 = gn at *
  simp only [go_sem, Nat.reduceEqDiff, Nat.reduceAdd, Nat.reduceLT, Nat.reduceLeDiff, reduceIte, ECells, WB69, WVH_eq (Old_ok hv), true_and]
  refine WL_inv (α := Nat × Nat × Int × Int × List Ln × List Int × List Int) (fun q e mm => e 2 = encIs ch ∧ e 3 = .ptr 0 0 0 ∧ e 4 = .ptr 1 0 0 ∧ e 7 = encNs q.2.2.2.2.1 ∧ e 8 = I64 q.2.2.1 ∧ e 9 = I64 q.2.1 ∧ e 10 = I64 q.1 ∧ days.drop q.1 = q.2.2.2.2.2.1 ∧ ch.drop q.2.1 = q.2.2.2.2.2.2 ∧ q.2.1 ≤ ch.length ∧ StL l b0 q.2.2.2.2.1 q.2.2.2.1 ∧ 0 ≤ q.2.2.2.1 ∧ q.2.2.2.1 ≤ q.2.2.1 ∧ q.2.2.1 ≤ 40 ∧ (q.2.2.1 = q.2.2.2.1 ∨ q.2.2.1 ≤ skN l q.2.2.2.2.1 q.2.2.2.1) ∧ shF gn q.1 (skN l q.2.2.2.2.1 q.2.2.2.1 - q.2.2.1) q.2.2.2.2.2.1 q.2.2.2.2.2.2 = shF gn 0 (skN l (truM l) b0 - b0) days ch ∧ ∃ bl, mm = ⟨.live [encL l] 9 :: .live [encE b0 days ch0] 3 :: bl, []⟩) (fun q => q.2.2.2.2.2.1.length) (0, 0, b0, b0, truM l, days, ch) ?_ ?_
  · simp only [go_sem, Nat.reduceEqDiff, Nat.reduceAdd, Nat.reduceLT, Nat.reduceLeDiff, reduceIte]
    exact ⟨trivial, trivial, trivial, trivial, trivial, rfl, rfl, trivial, trivial, Nat.zero_le _, .inl ⟨rfl, rfl⟩, b00, Int.le_refl _, b01, .inl trivial, trivial, _, rfl⟩
  rintro ⟨k, j, b, a, xs, r, rc⟩ e m ⟨g2, g3, g4, g7, g8, g9, g10, hdr, hcr, hjl, hst, a0, ab, b40, hb, hq, bl, rfl⟩
  dsimp only at g7 g8 g9 g10 hdr hcr hjl hst a0 ab b40 hb hq
  obtain ⟨hxN, hxl⟩ := hst.nv hv
  cases r with
  | nil =>
    have h3 := drop_nil hdr
    have hfin : ((j : Int) == (ch.length : Int)) = rc.isEmpty := by
      rw [← hcr]
      cases hrc : ch.drop j with
      | nil =>
        have := drop_nil hrc
        rw [List.isEmpty_nil, beq_iff_eq]; omega
      | cons c s =>
        have := (drop_cons hrc).2.2
        rw [List.isEmpty_cons, beq_eq_false_iff_ne]; omega
    simp only [go_sem, Nat.reduceEqDiff, Nat.reduceAdd, Nat.reduceLT, Nat.reduceLeDiff, reduceIte, g2, g3, g4, g7, g8, g9, g10, ECells, dec_ge h3, hfin]
    rw [← hq]; rfl
  | cons h r =>
    obtain ⟨hk, hd2, hlt⟩ := drop_cons hdr
    have hh := hd h (List.mem_of_getElem? hk)
    have hold : hdB rc k = false → RV ft 39 [encL l, encNs xs, I64 b, I64 h] (.bool (decide (h ≤ skN l xs a - b))) := fun _ => by
      rw [← cs_eq hv a0 ab hb hh.1]
      exact CanShow_ok hv xs (by omega) hxN (by omega) (by omega) hh.1 (by omega)
    have hnew : RV ft 39 [encL l, encNs (linM l), I64 0, I64 h] (.bool (decide (h ≤ gn))) := by
      have h5 := cs_eq hv (xs := linM l) (a := 0) (b := 0) (Int.le_refl 0) (Int.le_refl 0) (.inl rfl) hh.1
      rw [hG, Int.sub_zero] at h5
      rw [← h5]
      exact CanShow_ok hv _ (by have := linM_len hv; omega) (fun x hx => linM_NV hv hx) (Int.le_refl 0) (by omega) hh.1 (by omega)
    have w1 : IntKind.i64.wrap (b + h) = b + h := wrap_i64 _ (by omega) (by omega)
    have w2 : IntKind.i64.wrap (0 + h) = h := by rw [wrap_i64 _ (by omega) (by omega)]; omega
    have hsk := skN_le hv (xs := xs) a0
    rw [shF_cons] at hq
    have hstep : hdB rc k = false → (∀ hf : decide (h ≤ skN l xs a - b) = true, (b + h ≤ skN l xs a) ∧ b + h ≤ 40) := fun _ hf => by
      have := of_decide_eq_true hf; omega
    cases rc with
    | nil =>
      have hj := drop_nil hcr
      have hold := hold rfl
      rw [show hdB [] k = false from rfl, if_neg (by decide)] at hq
      cases hc : decide (h ≤ skN l xs a - b)
      · rw [hc] at hold hq
        simp only [go_sem, Nat.reduceEqDiff, Nat.reduceAdd, Nat.reduceLT, Nat.reduceLeDiff, reduceIte, g2, g3, g4, g7, g8, g9, g10, ECells, EEta, LEta, dec_lt hlt, dec_ge hj, Is_idx hk, WB39, WVH_eq hold, true_and]
        rw [← hq]; rfl
      · have hs := hstep rfl hc
        rw [hc] at hold hq
        simp only [go_sem, Nat.reduceEqDiff, Nat.reduceAdd, Nat.reduceLT, Nat.reduceLeDiff, reduceIte, g2, g3, g4, g7, g8, g9, g10, ECells, EEta, LEta, dec_lt hlt, dec_ge hj, Is_idx hk, WB39, WVH_eq hold, true_and, w1, wrap_n1 k (by omega)]
        refine Nx_of (k + 1, j, b + h, a, xs, r, []) (by simp) ?_
        simp only [go_sem, Nat.reduceEqDiff, Nat.reduceAdd, Nat.reduceLT, Nat.reduceLeDiff, reduceIte, g2, g3, g4, g7, g9]
        exact ⟨trivial, trivial, trivial, trivial, trivial, trivial, trivial, hd2, hcr, hjl, hst, a0, by omega, hs.2, .inr hs.1, by rw [← hq, show skN l xs a - (b + h) = skN l xs a - b - h by omega]; rfl, _, rfl⟩
    | cons c s =>
      obtain ⟨hjk, hj2, hjlt⟩ := drop_cons hcr
      cases hck : (c == (k : Int))
      · have hb' : hdB (c :: s) k = false := hck
        have hold := hold hb'
        rw [hb', if_neg (by decide)] at hq
        cases hc : decide (h ≤ skN l xs a - b)
        · rw [hc] at hold hq
          simp only [go_sem, Nat.reduceEqDiff, Nat.reduceAdd, Nat.reduceLT, Nat.reduceLeDiff, reduceIte, g2, g3, g4, g7, g8, g9, g10, ECells, EEta, LEta, dec_lt hlt, dec_lt hjlt, Is_idx hjk, hck, Is_idx hk, WB39, WVH_eq hold, true_and]
          rw [← hq]; rfl
        · have hs := hstep hb' hc
          rw [hc] at hold hq
          simp only [go_sem, Nat.reduceEqDiff, Nat.reduceAdd, Nat.reduceLT, Nat.reduceLeDiff, reduceIte, g2, g3, g4, g7, g8, g9, g10, ECells, EEta, LEta, dec_lt hlt, dec_lt hjlt, Is_idx hjk, hck, Is_idx hk, WB39, WVH_eq hold, true_and, w1, wrap_n1 k (by omega)]
          refine Nx_of (k + 1, j, b + h, a, xs, r, c :: s) (by simp) ?_
          simp only [go_sem, Nat.reduceEqDiff, Nat.reduceAdd, Nat.reduceLT, Nat.reduceLeDiff, reduceIte, g2, g3, g4, g7, g9]
          exact ⟨trivial, trivial, trivial, trivial, trivial, trivial, trivial, hd2, hcr, hjl, hst, a0, by omega, hs.2, .inr hs.1, by rw [← hq, show skN l xs a - (b + h) = skN l xs a - b - h by omega]; rfl, _, rfl⟩
      · have hb' : hdB (c :: s) k = true := hck
        rw [hb', if_pos rfl, List.tail_cons] at hq
        cases hc : decide (h ≤ gn)
        · rw [hc] at hnew hq
          simp only [go_sem, Nat.reduceEqDiff, Nat.reduceAdd, Nat.reduceLT, Nat.reduceLeDiff, reduceIte, g2, g3, g4, g7, g8, g9, g10, ECells, EEta, LEta, dec_lt hlt, dec_lt hjlt, Is_idx hjk, hck, Is_idx hk, WB40, WVH_eq (New_ok hv), WB39, WVH_eq hnew, true_and, wrap_n1 j (by omega)]
          rw [← hq]; rfl
        · have hc' := of_decide_eq_true hc
          rw [hc] at hnew hq
          simp only [go_sem, Nat.reduceEqDiff, Nat.reduceAdd, Nat.reduceLT, Nat.reduceLeDiff, reduceIte, g2, g3, g4, g7, g8, g9, g10, ECells, EEta, LEta, dec_lt hlt, dec_lt hjlt, Is_idx hjk, hck, Is_idx hk, WB40, WVH_eq (New_ok hv), WB39, WVH_eq hnew, true_and, w2, wrap_n1 j (by omega), wrap_n1 k (by omega)]
          refine Nx_of (k + 1, j + 1, h, 0, linM l, r, s) (by simp) ?_
          simp only [go_sem, Nat.reduceEqDiff, Nat.reduceAdd, Nat.reduceLT, Nat.reduceLeDiff, reduceIte, g2, g3, g4]
          exact ⟨trivial, trivial, trivial, trivial, trivial, trivial, trivial, hd2, hj2, by omega, .inr ⟨rfl, rfl⟩, Int.le_refl 0, by omega, by omega, .inr (by rw [hG]; omega), by rw [← hq, hG]; rfl, _, rfl⟩
end Go.Ab.T
end
