/-
  A part of the proofs over this seat.
  (The texts KrM5 KrK8, one behind the other.)
-/
import Derived.Test.YtnkdfekbifcglaaP5
set_option linter.unusedSimpArgs false
set_option linter.unusedVariables false
set_option linter.unusedSectionVars false
section
namespace Go.Ab.T
/-! ### Plans -/
def lsum {α : Type} (l : List α) (f : α → Int) : Int := (l.map f).sum
theorem lsum_nil {α : Type} (f : α → Int) : lsum [] f = 0 := rfl
theorem lsum_cons {α : Type} (a : α) (l : List α) (f : α → Int) : lsum (a :: l) f = f a + lsum l f := by unfold lsum; rw [List.map_cons, List.sum_cons]
theorem lsum_app {α : Type} (l k : List α) (f : α → Int) : lsum (l ++ k) f = lsum l f + lsum k f := by unfold lsum; rw [List.map_append, List.sum_append]
theorem lsum_le {α : Type} {l : List α} {f g : α → Int} (h : ∀ x ∈ l, f x ≤ g x) : lsum l f ≤ lsum l g := by
  induction l with
  | nil => exact Int.le_refl _
  | cons a r ih =>
    rw [lsum_cons, lsum_cons]
    have := ih fun x hx => h x (by simp [hx])
    have := h a (by simp)
    omega
theorem lsum_congr {α : Type} {l : List α} {f g : α → Int} (h : ∀ x ∈ l, f x = g x) : lsum l f = lsum l g := by
  unfold lsum; congr 1; exact List.map_congr_left h
theorem lsum_add {α : Type} (l : List α) (f g : α → Int) : lsum l (fun x => f x + g x) = lsum l f + lsum l g := by
  induction l with
  | nil => rfl
  | cons a r ih => rw [lsum_cons, lsum_cons, lsum_cons, ih]; omega
theorem lsum_sub {α : Type} (l : List α) (f g : α → Int) : lsum l (fun x => f x - g x) = lsum l f - lsum l g := by
  induction l with
  | nil => rfl
  | cons a r ih => rw [lsum_cons, lsum_cons, lsum_cons, ih]; omega
theorem lsum_sumR {α : Type} (l : List α) (f : α → Nat → Int) : ∀ n, lsum l (fun x => sumR n (f x)) = sumR n fun i => lsum l fun x => f x i
  | 0 => by
    simp only [sumR]
    induction l with
    | nil => rfl
    | cons a r ih => rw [lsum_cons, ih]; rfl
  | n + 1 => by simp only [sumR]; rw [lsum_add, lsum_sumR l f n]
theorem lsum_flat {α β : Type} (g : α → Int) (f : Nat → List α) : ∀ n, lsum ((List.range n).flatMap f) g = sumR n fun i => lsum (f i) g
  | 0 => rfl
  | n + 1 => by rw [range_snoc, List.flatMap_append, lsum_app, lsum_flat (β := β) g f n]; simp [sumR]
theorem sumR_pick {n : Nat} {a : Int} (h0 : 0 ≤ a) (h1 : a < n) (f : Nat → Int) : (sumR n fun i => if a = (i : Int) then f i else 0) = f a.toNat := by
  induction n with
  | zero => omega
  | succ n ih =>
    simp only [sumR]
    by_cases ha : a = n
    · subst ha
      rw [if_pos rfl, sumR_z fun i hi => by rw [if_neg (by omega)]]; simp
    · rw [if_neg ha, ih (by omega)]; omega
theorem sumR_none {n : Nat} {a : Int} (h : a < 0 ∨ (n : Int) ≤ a) (f : Nat → Int) : (sumR n fun i => if a = (i : Int) then f i else 0) = 0 := sumR_z fun i hi => by rw [if_neg (by omega)]
def frQ (h : Ho) (x : Mv) : Int := (pq h x.pa.toNat).fr
def toQ (h : Ho) (x : Mv) : Int := (pq h x.pa.toNat).to
def wkQ (h : Ho) (x : Mv) : Int := (pq h x.pa.toNat).wk
def usedL (l : List Mv) (i m : Int) : Int := lsum l fun x => if x.pa = i ∧ x.mi = m then x.pe else 0
def leftL (h : Ho) (l : List Mv) (r m : Int) : Int := lsum l fun x => if frQ h x = r ∧ x.mi ≤ m then x.pe else 0
def cameL (h : Ho) (l : List Mv) (r m : Int) : Int := lsum l fun x => if toQ h x = r ∧ x.mi + wkQ h x ≤ m then x.pe else 0
def outL (h : Ho) (l : List Mv) : Int := lsum l fun x => if toQ h x = -1 then x.pe else 0
structure MvOK (h : Ho) (T : Int) (x : Mv) : Prop where
  m0 : 0 ≤ x.mi
  p0 : 0 ≤ x.pa
  p1 : x.pa < h.s.length
  e1 : 1 ≤ x.pe
  m1 : x.mi + wkQ h x ≤ T
structure PlanOK (h : Ho) (T : Int) (l : List Mv) : Prop where
  mv : ∀ x ∈ l, MvOK h T x
  wd : ∀ i m : Nat, i < h.s.length → usedL l i m ≤ (pq h i).wd
  nn : ∀ r m : Nat, r < h.p.length → (m : Int) ≤ T → 0 ≤ pp h r - leftL h l r m + cameL h l r m
def HrOK (h : Ho) (T : Int) (H : Nat → Int) : Prop := ∀ r, r < h.p.length → 0 ≤ H r ∧ H r ≤ T + 1
theorem weak {h : Ho} (hV : HV h) {T : Int} (hT : 0 ≤ T) {l : List Mv} (hP : PlanOK h T l) {H : Nat → Int} (hH : HrOK h T H) : outL h l ≤ bnd h T H := by
  -- who is not in the rooms before their hours
  obtain ⟨fa, hfa⟩ : ∃ fa : Mv → Nat → Int, fa = fun x (r : Nat) => if toQ h x = (r : Int) then (if x.mi + wkQ h x < H r then x.pe else 0) else 0 := ⟨_, rfl⟩
  obtain ⟨fb, hfb⟩ : ∃ fb : Mv → Nat → Int, fb = fun x (r : Nat) => if frQ h x = (r : Int) then (if x.mi < H r then x.pe else 0) else 0 := ⟨_, rfl⟩
  have hD : ∀ r, r < h.p.length → 0 ≤ (if 0 < H r then pp h r else 0) + (lsum l (fun x => fa x r) - lsum l fun x => fb x r) := fun r hr => by
    have hHr := hH r hr
    by_cases h0 : 0 < H r
    · rw [if_pos h0]
      obtain ⟨m, hm⟩ := Int.eq_ofNat_of_zero_le (show 0 ≤ H r - 1 by omega)
      have := hP.nn r m hr (by omega)
      have e1 : lsum l (fun x => fa x r) = cameL h l r m := by
        unfold cameL
        refine lsum_congr fun x hx => ?_
        rw [hfa]
        dsimp only
        by_cases a1 : toQ h x = (r : Int) <;> by_cases a2 : x.mi + wkQ h x ≤ (m : Int)
        · rw [if_pos a1, if_pos (by omega), if_pos ⟨a1, a2⟩]
        · rw [if_pos a1, if_neg (by omega), if_neg fun h => a2 h.2]
        · rw [if_neg a1, if_neg fun h => a1 h.1]
        · rw [if_neg a1, if_neg fun h => a1 h.1]
      have e2 : lsum l (fun x => fb x r) = leftL h l r m := by
        unfold leftL
        refine lsum_congr fun x hx => ?_
        rw [hfb]
        dsimp only
        by_cases a1 : frQ h x = (r : Int) <;> by_cases a2 : x.mi ≤ (m : Int)
        · rw [if_pos a1, if_pos (by omega), if_pos ⟨a1, a2⟩]
        · rw [if_pos a1, if_neg (by omega), if_neg fun h => a2 h.2]
        · rw [if_neg a1, if_neg fun h => a1 h.1]
        · rw [if_neg a1, if_neg fun h => a1 h.1]
      rw [e1, e2]; omega
    · rw [if_neg h0]
      have e1 : lsum l (fun x => fa x r) = 0 := by
        rw [lsum_congr (g := fun _ => 0) fun x hx => ?_]
        · have := lsum_add l (fun _ => 0) (fun _ => 0); simp only [Int.add_zero] at this; omega
        · have hx := hP.mv x hx
          have hw := (hV.sv _ (pq_mem (h := h) (i := x.pa.toNat) (by have := hx.p0; have := hx.p1; omega))).k0
          rw [hfa]; dsimp only
          split
          · rw [if_neg]; have := hx.m0; unfold wkQ; omega
          · rfl
      have e2 : lsum l (fun x => fb x r) = 0 := by
        rw [lsum_congr (g := fun _ => 0) fun x hx => ?_]
        · have := lsum_add l (fun _ => 0) (fun _ => 0); simp only [Int.add_zero] at this; omega
        · have hx := hP.mv x hx
          rw [hfb]; dsimp only
          split
          · rw [if_neg]; have := hx.m0; omega
          · rfl
      rw [e1, e2]; omega
  have hS := sumR_nn hD
  rw [sumR_add] at hS
  have hsub : (sumR h.p.length fun r => lsum l (fun x => fa x r) - lsum l fun x => fb x r) = lsum l (fun x => sumR h.p.length (fa x)) - lsum l fun x => sumR h.p.length (fb x) := by
    rw [lsum_sumR, lsum_sumR]
    have := sumR_add h.p.length (fun r => lsum l (fun x => fa x r) - lsum l fun x => fb x r) (fun r => lsum l fun x => fb x r)
    simp only [Int.sub_add_cancel] at this
    omega
  rw [hsub] at hS
  -- what each move does
  obtain ⟨cr, hcr⟩ : ∃ cr : Mv → Int, cr = fun x => if crB h H x.pa.toNat x.mi.toNat = true then x.pe else 0 := ⟨_, rfl⟩
  have hmv : lsum l (fun x => (if toQ h x = -1 then x.pe else 0) + (sumR h.p.length (fa x) - sumR h.p.length (fb x))) ≤ lsum l cr := by
    refine lsum_le fun x hx => ?_
    have hx := hP.mv x hx
    have hq := hV.sv _ (pq_mem (h := h) (i := x.pa.toNat) (by have := hx.p0; have := hx.p1; omega))
    have e1 := hx.e1
    have fbE : sumR h.p.length (fb x) = if x.mi < H (frQ h x).toNat then x.pe else 0 := by
      rw [hfb]; exact sumR_pick hq.f0 hq.f1 fun r => if x.mi < H r then x.pe else 0
    have hmn : ((x.mi.toNat : Nat) : Int) = x.mi := Int.toNat_of_nonneg hx.m0
    have hcB : (crB h H x.pa.toNat x.mi.toNat = true) ↔ (H (frQ h x).toNat ≤ x.mi ∧ (toQ h x = -1 ∨ x.mi + wkQ h x < H (toQ h x).toNat)) := by
      unfold crB; rw [hmn]; simp [frQ, toQ, wkQ]
    rw [fbE, hcr]
    dsimp only
    by_cases ht : toQ h x = -1
    · have faE : sumR h.p.length (fa x) = 0 := by
        rw [hfa]; exact sumR_none (.inl (by omega)) _
      rw [faE, if_pos ht]
      by_cases hc : H (frQ h x).toNat ≤ x.mi
      · rw [if_pos (hcB.2 ⟨hc, .inl ht⟩), if_neg (by omega)]; omega
      · rw [if_neg fun h => hc (hcB.1 h).1, if_pos (by omega)]; omega
    · have faE : sumR h.p.length (fa x) = if x.mi + wkQ h x < H (toQ h x).toNat then x.pe else 0 := by
        rw [hfa]; exact sumR_pick (by have := hq.t0; unfold toQ at ht; omega) hq.t1 fun r => if x.mi + wkQ h x < H r then x.pe else 0
      rw [faE, if_neg ht]
      by_cases hc : H (frQ h x).toNat ≤ x.mi <;> by_cases hd : x.mi + wkQ h x < H (toQ h x).toNat
      · rw [if_pos hd, if_neg (by omega), if_pos (hcB.2 ⟨hc, .inr hd⟩)]; omega
      · rw [if_neg hd, if_neg (by omega), if_neg fun h => ((hcB.1 h).2.elim ht hd)]; omega
      · rw [if_pos hd, if_pos (by omega), if_neg fun h => hc (hcB.1 h).1]; omega
      · rw [if_neg hd, if_pos (by omega), if_neg fun h => hc (hcB.1 h).1]; omega
  rw [lsum_add, lsum_sub] at hmv
  -- what crosses, passage by passage and minute by minute
  have hcx : lsum l cr ≤ sumR h.s.length fun i => sumR (nM T (pq h i)) fun m => if crB h H i m = true then (pq h i).wd else 0 := by
    have h1 : lsum l cr = lsum l fun x => sumR h.s.length fun i => if x.pa = (i : Int) then sumR (nM T (pq h i)) (fun m => if x.mi = (m : Int) then (if crB h H i m = true then x.pe else 0) else 0) else 0 := by
      refine lsum_congr fun x hx => ?_
      have hx := hP.mv x hx
      rw [sumR_pick hx.p0 hx.p1 fun i => sumR (nM T (pq h i)) fun m => if x.mi = (m : Int) then (if crB h H i m = true then x.pe else 0) else 0]
      rw [sumR_pick hx.m0 (by have := hx.m1; unfold nM; unfold wkQ at this; omega) fun m => if crB h H x.pa.toNat m = true then x.pe else 0, hcr]
    rw [h1, lsum_sumR]
    refine sumR_le fun i hi => ?_
    have h2 : (lsum l fun x => if x.pa = (i : Int) then sumR (nM T (pq h i)) (fun m => if x.mi = (m : Int) then (if crB h H i m = true then x.pe else 0) else 0) else 0) = lsum l fun x => sumR (nM T (pq h i)) fun m => if x.pa = (i : Int) ∧ x.mi = (m : Int) then (if crB h H i m = true then x.pe else 0) else 0 := by
      refine lsum_congr fun x hx => ?_
      by_cases a : x.pa = (i : Int)
      · rw [if_pos a]
        refine sumR_congr fun m _ => ?_
        by_cases b : x.mi = (m : Int)
        · rw [if_pos b, if_pos (show x.pa = (i : Int) ∧ x.mi = (m : Int) from ⟨a, b⟩)]
        · rw [if_neg b, if_neg (show ¬(x.pa = (i : Int) ∧ x.mi = (m : Int)) from fun h => b h.2)]
      · rw [if_neg a, sumR_z fun m _ => if_neg fun h => a h.1]
    rw [h2, lsum_sumR]
    refine sumR_le fun m hm => ?_
    by_cases c : crB h H i m = true
    · rw [if_pos c]
      refine Int.le_trans (Int.le_of_eq ?_) (hP.wd i m hi)
      unfold usedL
      refine lsum_congr fun x hx => ?_
      simp only [c, if_true]
    · rw [if_neg c]
      refine Int.le_of_eq ?_
      rw [lsum_congr (g := fun _ => 0) fun x hx => ?_]
      · have := lsum_add l (fun _ => 0) (fun _ => 0); simp only [Int.add_zero] at this; omega
      · rw [if_neg c]; simp
  unfold bnd outL
  omega
/-! ### The plan of a flow -/
theorem lsum_mvO (U : US) (m i : Nat) (g : Mv → Int) (h0 : 0 ≤ U ((i : Int), (m : Int))) (hg : g ⟨m, i, 0⟩ = 0) : lsum (mvO U m i) g = g ⟨m, i, U ((i : Int), (m : Int))⟩ := by
  unfold mvO
  split
  · rw [lsum_cons, lsum_nil, Int.add_zero]
  · rw [show U ((i : Int), (m : Int)) = 0 by omega, hg]; rfl
theorem lsum_plan (U : US) (k : Nat) (g : Mv → Int) (h0 : ∀ m i : Nat, i < k → 0 ≤ U ((i : Int), (m : Int))) (hg : ∀ m i : Nat, g ⟨m, i, 0⟩ = 0) : ∀ T, lsum (planL U T k) g = sumR T fun m => sumR k fun i => g ⟨m, i, U ((i : Int), (m : Int))⟩ := by
  have h1 : ∀ m k', k' ≤ k → lsum (mvR U m k') g = sumR k' fun i => g ⟨m, i, U ((i : Int), (m : Int))⟩ := by
    intro m k'
    induction k' with
    | zero => intro _; rfl
    | succ k' ih =>
      intro hk
      rw [mvR_succ, lsum_app, ih (by omega), lsum_mvO U m k' g (h0 m k' (by omega)) (hg m k')]; rfl
  intro T
  induction T with
  | zero => rfl
  | succ T ih => rw [planL_succ, lsum_app, ih, h1 T k (Nat.le_refl _)]; rfl
theorem sumR_swap (f : Nat → Nat → Int) (k : Nat) : ∀ n, (sumR n fun m => sumR k fun i => f m i) = sumR k fun i => sumR n fun m => f m i
  | 0 => (sumR_z fun i _ => rfl).symm
  | n + 1 => by simp only [sumR]; rw [sumR_swap f k n, ← sumR_add]
theorem sumR_cut {f : Nat → Int} {n : Nat} : ∀ {k : Nat}, n ≤ k → (∀ i, n ≤ i → i < k → f i = 0) → sumR k f = sumR n f
  | 0, h, _ => by obtain rfl : n = 0 := by omega
                  rfl
  | k + 1, h, hz => by
    by_cases hk : n = k + 1
    · subst hk; rfl
    · simp only [sumR]
      rw [hz k (by omega) (by omega), Int.add_zero]
      exact sumR_cut (by omega) fun i h1 h2 => hz i h1 (by omega)
section
variable {h : Ho} {T : Int} {U : US} {val : Int}
theorem Flow.late (hV : HV h) (hT : 0 ≤ T) (F : Flow h T U val) {i m : Nat} (hi : i < h.s.length) (hm : nM T (pq h i) ≤ m) : U ((i : Int), (m : Int)) = 0 := by
  refine F.oth _ fun a ha e => ?_
  have e1 := congrArg Prod.fst e
  have e2 := congrArg Prod.snd e
  rcases mem_net.1 ha with ⟨r, hr, rfl | ⟨m', hm', rfl⟩⟩ | ⟨i', q, m', hq, hm', rfl⟩
  · simp only [Arc.key, startA] at e1; omega
  · simp only [Arc.key, stayA] at e1; omega
  · simp only [Arc.key, passA] at e1 e2
    have : i' = i := by omega
    subst this
    rw [pq_get hi] at hq
    cases hq
    omega
theorem Flow.pn (hV : HV h) (hT : 0 ≤ T) (F : Flow h T U val) {i m : Nat} (hi : i < h.s.length) : 0 ≤ U ((i : Int), (m : Int)) ∧ U ((i : Int), (m : Int)) ≤ (pq h i).wd := by
  by_cases hm : m < nM T (pq h i)
  · exact F.ps hi hm
  · rw [F.late hV hT hi (by omega)]
    exact ⟨Int.le_refl _, (hV.sv _ (pq_mem hi)).w0⟩
theorem nM_le (hV : HV h) (hT : 0 ≤ T) {i : Nat} (hi : i < h.s.length) : nM T (pq h i) ≤ T.toNat := by
  have := (hV.sv _ (pq_mem hi)).k0
  unfold nM; omega
/-- A sum over the moves of a flow's plan. -/
theorem Flow.sum (hV : HV h) (hT : 0 ≤ T) (F : Flow h T U val) (g : Mv → Int) (hg : ∀ m i : Nat, g ⟨m, i, 0⟩ = 0) : lsum (planL U T.toNat h.s.length) g = sumR h.s.length fun i => sumR (nM T (pq h i)) fun m => g ⟨m, i, U ((i : Int), (m : Int))⟩ := by
  rw [lsum_plan U h.s.length g (fun m i hi => (F.pn hV hT hi).1) hg, sumR_swap]
  refine sumR_congr fun i hi => sumR_cut (nM_le hV hT hi) fun m h1 h2 => ?_
  rw [F.late hV hT hi h1, hg]
theorem Flow.out (hV : HV h) (hT : 0 ≤ T) (F : Flow h T U val) : (sumR h.s.length fun i => sumR (nM T (pq h i)) fun m => if (pq h i).to = -1 then U ((i : Int), (m : Int)) else 0) = val := by
  have hF := F.phi fun x => if x = 1 then 1 else 0
  rw [Phi_net] at hF
  rw [if_neg (show ¬(0 : Int) = 1 by omega), if_pos rfl] at hF
  rw [sumR_z (n := h.p.length) fun r hr => ?_, Int.zero_add] at hF
  · have e : (sumR h.s.length fun i => sumR (nM T (pq h i)) fun m => U ((i : Int), (m : Int)) * ((if ndI T (pq h i).fr m = 1 then 1 else 0) - if ndI T (pq h i).to (m + (pq h i).wk) = 1 then 1 else 0)) = -(sumR h.s.length fun i => sumR (nM T (pq h i)) fun m => if (pq h i).to = -1 then U ((i : Int), (m : Int)) else 0) := by
      have := sumR_mul (-1) h.s.length fun i => sumR (nM T (pq h i)) fun m => if (pq h i).to = -1 then U ((i : Int), (m : Int)) else 0
      rw [Int.neg_one_mul] at this
      rw [← this]
      refine sumR_congr fun i hi => ?_
      rw [← sumR_mul]
      refine sumR_congr fun m hm => ?_
      have hq := hV.sv _ (pq_mem hi)
      have hmw := nM_lt hq.k0 hm
      have k0 := hq.k0
      have hb := nd_bd (h := h) (T := T) (r := (pq h i).fr) (m := m) hT hq.f0 hq.f1 (by omega) (by omega)
      rw [if_neg (show ¬ndI T (pq h i).fr m = 1 by omega)]
      by_cases ht : (pq h i).to = -1
      · rw [if_pos ht, ht, nd_out, if_pos rfl]; omega
      · have hb' := nd_bd (h := h) (T := T) (r := (pq h i).to) (m := m + (pq h i).wk) hT (by have := hq.t0; omega) hq.t1 (by omega) (by omega)
        rw [if_neg ht, if_neg (show ¬ndI T (pq h i).to (m + (pq h i).wk) = 1 by omega)]; omega
    rw [e] at hF
    omega
  · have hb := nd_bd (h := h) (T := T) (r := r) (m := 0) hT (by omega) (by omega) (by omega) hT
    rw [if_neg (show ¬ndI T (r : Int) 0 = 1 by omega), Int.sub_self, Int.mul_zero, Int.zero_add]
    refine sumR_z fun m hm => ?_
    have hb1 := nd_bd (h := h) (T := T) (r := r) (m := m) hT (by omega) (by omega) (by omega) (by omega)
    have hb2 := nd_bd (h := h) (T := T) (r := r) (m := m + 1) hT (by omega) (by omega) (by omega) (by omega)
    rw [if_neg (show ¬ndI T (r : Int) m = 1 by omega), if_neg (show ¬ndI T (r : Int) (m + 1) = 1 by omega), Int.sub_self, Int.mul_zero]
theorem plan_mem {U : US} {T k : Nat} {x : Mv} (hx : x ∈ planL U T k) : ∃ m i : Nat, m < T ∧ i < k ∧ 0 < U ((i : Int), (m : Int)) ∧ x = ⟨m, i, U ((i : Int), (m : Int))⟩ := by
  unfold planL mvR at hx
  simp only [List.mem_flatMap, List.mem_range] at hx
  obtain ⟨m, hm, i, hi, hx⟩ := hx
  unfold mvO at hx
  split at hx
  · rename_i hp
    rw [List.mem_singleton] at hx
    exact ⟨m, i, hm, hi, hp, hx⟩
  · simp at hx
theorem ite_zero {c : Prop} [Decidable c] : (if c then (0 : Int) else 0) = 0 := by split <;> rfl
theorem Flow.plan (hV : HV h) (hT : 0 ≤ T) (F : Flow h T U val) : PlanOK h T (planL U T.toNat h.s.length) ∧ outL h (planL U T.toNat h.s.length) = val := by
  have hpa : ∀ (m i : Nat) (e : Int), frQ h ⟨m, i, e⟩ = (pq h i).fr ∧ toQ h ⟨m, i, e⟩ = (pq h i).to ∧ wkQ h ⟨m, i, e⟩ = (pq h i).wk := fun m i e => ⟨by simp [frQ], by simp [toQ], by simp [wkQ]⟩
  refine ⟨⟨fun x hx => ?_, fun i m hi => ?_, fun r m hr hm => ?_⟩, ?_⟩
  · obtain ⟨m, i, hm, hi, hp, rfl⟩ := plan_mem hx
    have hmn : m < nM T (pq h i) := Nat.lt_of_not_le fun hn => by rw [F.late hV hT hi hn] at hp; omega
    have := nM_lt (hV.sv _ (pq_mem hi)).k0 hmn
    exact ⟨by simp, by simp, by simpa using hi, (show 1 ≤ U ((i : Int), (m : Int)) by omega), by rw [(hpa m i _).2.2]; simpa using this⟩
  · unfold usedL
    rw [F.sum hV hT _ fun _ _ => ite_zero]
    have h1 : (sumR h.s.length fun i' => sumR (nM T (pq h i')) fun m' => if ((i' : Nat) : Int) = (i : Int) ∧ ((m' : Nat) : Int) = (m : Int) then U ((i' : Int), (m' : Int)) else 0) = sumR h.s.length fun i' => if (i : Int) = (i' : Int) then sumR (nM T (pq h i')) (fun m' => if (m : Int) = (m' : Int) then U ((i' : Int), (m' : Int)) else 0) else 0 := by
      refine sumR_congr fun i' _ => ?_
      by_cases a : (i : Int) = (i' : Int)
      · rw [if_pos a]
        refine sumR_congr fun m' _ => ?_
        by_cases b : (m : Int) = (m' : Int)
        · rw [if_pos b, if_pos (show ((i' : Int) = (i : Int) ∧ (m' : Int) = (m : Int)) from ⟨a.symm, b.symm⟩)]
        · rw [if_neg b, if_neg (show ¬((i' : Int) = (i : Int) ∧ (m' : Int) = (m : Int)) from fun h => b h.2.symm)]
      · rw [if_neg a, sumR_z fun m' _ => if_neg fun h => a h.1.symm]
    refine Int.le_trans (Int.le_of_eq h1) ?_
    rw [sumR_pick (by omega) (by omega) fun i' => sumR (nM T (pq h i')) fun m' => if (m : Int) = (m' : Int) then U ((i' : Int), (m' : Int)) else 0, Int.toNat_natCast]
    by_cases hmn : m < nM T (pq h i)
    · rw [sumR_pick (by omega) (by omega) fun m' => U ((i : Int), (m' : Int)), Int.toNat_natCast]
      exact (F.pn hV hT hi).2
    · rw [sumR_none (.inr (by omega))]
      exact (hV.sv _ (pq_mem hi)).w0
  · obtain ⟨φ, hφ⟩ : ∃ φ : Int → Int, φ = fun x => if (ndI T r 0 ≤ x ∧ x ≤ ndI T r m) then 1 else 0 := ⟨_, rfl⟩
    have pn : ∀ r' m' : Nat, r' < h.p.length → (m' : Int) ≤ T → φ (ndI T r' m') = if r' = r ∧ m' ≤ m then 1 else 0 := fun r' m' h1 h2 => by
      rw [hφ]
      dsimp only
      rw [nd_in (by omega), nd_in (by omega), nd_in (by omega)]
      by_cases e1 : r' = r
      · subst e1
        by_cases e2 : m' ≤ m
        · rw [if_pos (by omega), if_pos ⟨rfl, e2⟩]
        · rw [if_neg (by omega), if_neg fun h => e2 h.2]
      · rw [if_neg (show ¬(r' = r ∧ m' ≤ m) from fun h => e1 h.1), if_neg]
        rintro ⟨g1, g2⟩
        rcases Nat.lt_or_gt_of_ne e1 with hlt | hgt
        · have := mul_up (a := (r' : Int)) (b := (r : Int)) (c := T + 1) (by omega) (by omega); omega
        · have := mul_up (a := (r : Int)) (b := (r' : Int)) (c := T + 1) (by omega) (by omega); omega
    have hb0 := nd_bd (h := h) (T := T) (r := r) (m := 0) hT (by omega) (by omega) (by omega) hT
    have p0 : φ 0 = 0 := by rw [hφ]; dsimp only; rw [if_neg (by omega)]
    have p1 : φ 1 = 0 := by rw [hφ]; dsimp only; rw [if_neg (by omega)]
    have hF := F.phi φ
    rw [Phi_net, p0, p1, Int.sub_self, Int.mul_zero] at hF
    -- the passages
    have hps : (sumR h.s.length fun i => sumR (nM T (pq h i)) fun m' => U ((i : Int), (m' : Int)) * (φ (ndI T (pq h i).fr m') - φ (ndI T (pq h i).to (m' + (pq h i).wk)))) = leftL h (planL U T.toNat h.s.length) r m - cameL h (planL U T.toNat h.s.length) r m := by
      unfold leftL cameL
      rw [← lsum_sub, F.sum hV hT _ fun _ _ => by simp [ite_zero]]
      refine sumR_congr fun i hi => sumR_congr fun m' hm' => ?_
      have hq := hV.sv _ (pq_mem hi)
      have hmw := nM_lt hq.k0 hm'
      have k0 := hq.k0
      obtain ⟨q1, q2, q3⟩ := hpa m' i (U ((i : Int), (m' : Int)))
      rw [q1, q2, q3]
      obtain ⟨fr, hfr⟩ := Int.eq_ofNat_of_zero_le hq.f0
      have hf1 := hq.f1
      have efr : U ((i : Int), (m' : Int)) * φ (ndI T (pq h i).fr m') = if (pq h i).fr = (r : Int) ∧ (m' : Int) ≤ m then U ((i : Int), (m' : Int)) else 0 := by
        rw [hfr, pn fr m' (by omega) (by omega)]
        by_cases e : fr = r ∧ m' ≤ m
        · rw [if_pos e, if_pos ⟨by omega, by omega⟩, Int.mul_one]
        · rw [if_neg e, if_neg (fun h => e ⟨by omega, by omega⟩), Int.mul_zero]
      have eto : U ((i : Int), (m' : Int)) * φ (ndI T (pq h i).to (m' + (pq h i).wk)) = if (pq h i).to = (r : Int) ∧ (m' : Int) + (pq h i).wk ≤ m then U ((i : Int), (m' : Int)) else 0 := by
        by_cases ht : (pq h i).to = -1
        · rw [ht, nd_out, p1, Int.mul_zero, if_neg (by omega)]
        · obtain ⟨to, hto⟩ := Int.eq_ofNat_of_zero_le (show 0 ≤ (pq h i).to by have := hq.t0; omega)
          obtain ⟨wk, hwk⟩ := Int.eq_ofNat_of_zero_le (show 0 ≤ (pq h i).wk by omega)
          have ht1 := hq.t1
          rw [hto, hwk, show (m' : Int) + (wk : Int) = ((m' + wk : Nat) : Int) by omega, pn to (m' + wk) (by omega) (by omega)]
          by_cases e : to = r ∧ m' + wk ≤ m
          · rw [if_pos e, if_pos ⟨by omega, by omega⟩, Int.mul_one]
          · rw [if_neg e, if_neg (fun h => e ⟨by omega, by omega⟩), Int.mul_zero]
      rw [Int.mul_sub, efr, eto]
    rw [hps] at hF
    -- the rooms: one only counts
    have hrm : (sumR h.p.length fun r' => U (-1 - (r' : Int), -1) * (0 - φ (ndI T r' 0)) + sumR T.toNat fun m' => U (-1 - (r' : Int), (m' : Int)) * (φ (ndI T r' m') - φ (ndI T r' (m' + 1)))) = sumR h.p.length fun r' => if (r : Int) = (r' : Int) then (-U (-1 - (r' : Int), -1) + sumR T.toNat fun m' => if (m : Int) = (m' : Int) then U (-1 - (r' : Int), (m' : Int)) else 0) else 0 := by
      refine sumR_congr fun r' hr' => ?_
      have z0 : φ (ndI T r' 0) = if r' = r ∧ 0 ≤ m then 1 else 0 := by have := pn r' 0 hr' hT; simpa using this
      by_cases e : (r : Int) = (r' : Int)
      · have e' : r' = r := by omega
        rw [if_pos e, z0, if_pos ⟨e', by omega⟩]
        congr 1
        · omega
        · refine sumR_congr fun m' hm' => ?_
          rw [pn r' m' hr' (by omega), show (m' : Int) + 1 = ((m' + 1 : Nat) : Int) by omega, pn r' (m' + 1) hr' (by omega)]
          by_cases c1 : m' ≤ m
          · rw [if_pos ⟨e', c1⟩]
            by_cases c2 : m' + 1 ≤ m
            · rw [if_pos ⟨e', c2⟩, if_neg (by omega)]; omega
            · rw [if_neg (fun h => c2 h.2), if_pos (by omega)]; omega
          · rw [if_neg (fun h => c1 h.2), if_neg (fun h => by have := h.2; omega), if_neg (by omega)]; omega
      · have e' : ¬r' = r := by omega
        rw [if_neg e, z0, if_neg (fun h => e' h.1), sumR_z fun m' hm' => ?_]
        · omega
        · rw [pn r' m' hr' (by omega), show (m' : Int) + 1 = ((m' + 1 : Nat) : Int) by omega, pn r' (m' + 1) hr' (by omega), if_neg (fun h => e' h.1), if_neg (fun h => e' h.1)]; omega
    rw [hrm, sumR_pick (by omega) (by omega) fun r' => -U (-1 - (r' : Int), -1) + sumR T.toNat fun m' => if (m : Int) = (m' : Int) then U (-1 - (r' : Int), (m' : Int)) else 0, Int.toNat_natCast] at hF
    have hst := (F.st hr).2
    have hsy : 0 ≤ sumR T.toNat fun m' => if (m : Int) = (m' : Int) then U (-1 - (r : Int), (m' : Int)) else 0 := sumR_nn fun m' hm' => by
      split
      · exact (F.sy hr hm').1
      · omega
    omega
  · unfold outL
    rw [F.sum hV hT _ fun _ _ => ite_zero, ← F.out hV hT]
    refine sumR_congr fun i hi => sumR_congr fun m hm => ?_
    rw [(hpa m i _).2.1]
end
end Go.Ab.T
end

section
namespace Go.Ab.T
set_option maxRecDepth 8000
set_option maxHeartbeats 1000000
theorem hours_W {h : Ho} (hV : HV h) {T : Int} (hT0 : 0 ≤ T) (hT : T ≤ 60) {um ar sn N : Nat} (hN : nN h T = N) {S : List Bool} (hSl : S.length = N) {bl : List Blk} {tk : List (Nat × Nat)} (hsn : bl[sn]? = some (.live (S.map .bool) 1)) {K : AV → Mem → Prop}
    (hK : ∀ (hs : List Int) j t tk', hs.length = h.p.length → (∀ r, r < h.p.length → ∃ H, hs[r]? = some H ∧ IsHour (SSof S) T r H) → K (.sl (hs.map I64) t) ⟨bl ++ j, tk'⟩) : WR ft (.f 49) [floV h T um ar sn N] ⟨bl, tk⟩ K := by
  rw [WR_f ft49 rfl]
  simp only [c49, r49]
  have hFs : (floV h T um ar sn N).solids = true := rfl
  have n6 := hV.n6
  simp only [go_sem, Nat.reduceEqDiff, Nat.reduceAdd, Nat.reduceLT, Nat.reduceLeDiff, reduceIte, hFs]
  refine WL_inv (α := Nat × AV × List (Nat × Nat) × List Int × List Blk) (fun q e mm => e 1 = .pv (floV h T um ar sn N) 0 ∧ e 3 = q.2.1 ∧ e 9 = encIs h.p ∧ e 10 = I64 h.p.length ∧ e 11 = I64 q.1 ∧ q.1 ≤ h.p.length ∧ AccT tk 3 (q.2.2.2.1.map I64) q.2.1 q.2.2.1 ∧ q.2.2.2.1.length = q.1 ∧ (∀ r, r < q.1 → ∃ H, q.2.2.2.1[r]? = some H ∧ IsHour (SSof S) T r H) ∧ mm = ⟨bl ++ q.2.2.2.2, q.2.2.1⟩) (fun q => h.p.length - q.1) (0, .sl [] .tight, tk, [], []) ?_ ?_
  · simp only [go_sem, Nat.reduceEqDiff, Nat.reduceAdd, Nat.reduceLT, Nat.reduceLeDiff, reduceIte]
    ((repeat' apply And.intro) <;> first | trivial | rfl | assumption | omega | (exact AccT_nil _ _) | (exact Nat.zero_le _) | (simp))
  rintro ⟨r, v, tk1, hs, j⟩ e mm ⟨g1, g3, g9, g10, g11, hr, hA, hl, hI, rfl⟩
  dsimp only at g3 g11 hr hA hl hI
  by_cases hlt : r < h.p.length
  · simp only [go_sem, Nat.reduceEqDiff, Nat.reduceAdd, Nat.reduceLT, Nat.reduceLeDiff, reduceIte, g1, g3, g9, g10, g11, dec_lt hlt]
    refine WL_inv (α := Nat × List Blk) (fun q e mm => e 1 = .pv (floV h T um ar sn N) 0 ∧ e 3 = v ∧ e 4 = I64 r ∧ e 5 = I64 q.1 ∧ e 9 = encIs h.p ∧ e 10 = I64 h.p.length ∧ e 11 = I64 r ∧ (q.1 : Int) ≤ T + 1 ∧ (∀ m : Nat, m < q.1 → SSof S (ndI T r m) = false) ∧ mm = ⟨bl ++ q.2, tk1⟩) (fun q => (T + 1).toNat - q.1) (0, j) ?_ ?_
    · simp only [go_sem, Nat.reduceEqDiff, Nat.reduceAdd, Nat.reduceLT, Nat.reduceLeDiff, reduceIte, g1, g3, g9, g10, g11]
      ((repeat' apply And.intro) <;> first | trivial | rfl | assumption | omega | ((intro m hm; simp at hm)))
    rintro ⟨m, j2⟩ e mm ⟨g1, g3, g4, g5, g9, g10, g11, hm, hno, rfl⟩
    dsimp only at g5 hm hno
    have fin : ∀ (e' : Nat → AV) (j3 : List Blk), ((m : Int) ≤ T → SSof S (ndI T r m) = true) → e' 1 = .pv (floV h T um ar sn N) 0 → e' 9 = encIs h.p → e' 10 = I64 h.p.length → e' 11 = I64 ((r + 1 : Nat) : Int) → (∀ v2 tk2, AccT tk 3 ((hs ++ [(m : Int)]).map I64) v2 tk2 → (e' 3 = v2) →
        @Nx (Nat × AV × List (Nat × Nat) × List Int × List Blk) ⟨fun q e mm => e 1 = .pv (floV h T um ar sn N) 0 ∧ e 3 = q.2.1 ∧ e 9 = encIs h.p ∧ e 10 = I64 h.p.length ∧ e 11 = I64 q.1 ∧ q.1 ≤ h.p.length ∧ AccT tk 3 (q.2.2.2.1.map I64) q.2.1 q.2.2.1 ∧ q.2.2.2.1.length = q.1 ∧ (∀ r, r < q.1 → ∃ H, q.2.2.2.1[r]? = some H ∧ IsHour (SSof S) T r H) ∧ mm = ⟨bl ++ q.2.2.2.2, q.2.2.1⟩, fun q => h.p.length - q.1 < h.p.length - r⟩ e' ⟨bl ++ j3, tk2⟩) := by
      intro e' j3 hy a1 a9 a10 a11 v2 tk2 hA2 a3
      refine Nx_of (r + 1, v2, tk2, hs ++ [(m : Int)], j3) (by show h.p.length - (r + 1) < h.p.length - r; omega) ⟨a1, a3, a9, a10, a11, hlt, hA2, by simp [hl], fun r' hr' => ?_, rfl⟩
      by_cases hrr : r' = r
      · subst hrr
        exact ⟨m, by rw [← hl]; simp, ⟨by omega, hm, fun m' hm' => hno m' (by omega), hy⟩⟩
      · obtain ⟨H, q1, q2⟩ := hI r' (by omega)
        exact ⟨H, getA q1 _, q2⟩
    obtain ⟨v2, tk2, a1, a2⟩ := hA.app (y := I64 (m : Int)) (sz := 1) (by' := 8) (fun e he => by obtain ⟨x, _, rfl⟩ := List.mem_map.1 he; rfl) rfl (by rw [List.length_map]; unfold limit; omega) .tight
    have a2' : AccT tk 3 ((hs ++ [(m : Int)]).map I64) v2 tk2 := by rw [List.map_append]; exact a2
    by_cases hmT : (m : Int) ≤ T
    · have hb := nd_bd (h := h) (T := T) (r := r) (m := m) hT0 (by omega) (by omega) (by omega) hmT
      obtain ⟨x, hx⟩ := Int.eq_ofNat_of_zero_le (show 0 ≤ ndI T r m by omega)
      have hxN : x < S.length := by rw [hSl]; omega
      simp only [go_sem, Nat.reduceEqDiff, Nat.reduceAdd, Nat.reduceLT, Nat.reduceLeDiff, reduceIte, g1, g3, g4, g5, g9, g10, g11, decide_eq_true hmT, WB68]
      refine node_W hT0 hT (by omega) (by omega) (by omega) (by omega) fun j3 => ?_
      have hsn2 : (bl ++ j2 ++ j3)[sn]? = some (.live (S.map AV.bool) 1) := getA (getA hsn _) _
      have i1 := idx_ref (tk := tk1) (N := N) (n := ndI T r m) hsn2 (by omega) (by omega)
      rw [hx, Int.toNat_natCast, ← hx] at i1
      have hSx : SSof S (ndI T r m) = S[x] := by rw [hx, SSof_nat, List.getElem?_eq_getElem hxN]; rfl
      have l1 : loadAt ⟨bl ++ j2 ++ j3, tk1⟩ (.ptr sn x 0) none = some (.bool (SSof S (ndI T r m))) := load_el hsn2 (by rw [List.getElem?_map, List.getElem?_eq_getElem hxN, hSx]; rfl) rfl
      cases hs2 : SSof S (ndI T r m) with
      | false =>
        rw [hs2] at l1
        simp only [go_sem, Nat.reduceEqDiff, Nat.reduceAdd, Nat.reduceLT, Nat.reduceLeDiff, reduceIte, g1, g3, g4, g5, g9, g10, g11, i1, l1, wrap_n1 m (by omega)]
        refine Nx_of (m + 1, j2 ++ j3) (by show (T + 1).toNat - (m + 1) < (T + 1).toNat - m; omega) ?_
        simp only [go_sem, Nat.reduceEqDiff, Nat.reduceAdd, Nat.reduceLT, Nat.reduceLeDiff, reduceIte, g1, g3, g4, g9, g10, g11]
        refine ⟨trivial, trivial, trivial, by first | trivial | rfl, trivial, trivial, trivial, by omega, fun m' hm' => ?_, by rw [List.append_assoc]⟩
        by_cases hmm : m' = m
        · subst hmm; exact hs2
        · exact hno m' (by omega)
      | true =>
        rw [hs2] at l1
        have a1B := a1 (bl ++ j2 ++ j3)
        simp only [go_sem, Nat.reduceEqDiff, Nat.reduceAdd, Nat.reduceLT, Nat.reduceLeDiff, reduceIte, g1, g3, g4, g5, g9, g10, g11, i1, l1, a1B, wrap_n1 r (by omega)]
        rw [List.append_assoc]
        exact fin _ (j2 ++ j3) (fun _ => hs2) (by simp only [go_sem, Nat.reduceEqDiff, Nat.reduceAdd, Nat.reduceLT, Nat.reduceLeDiff, reduceIte, g1]) (by simp only [go_sem, Nat.reduceEqDiff, Nat.reduceAdd, Nat.reduceLT, Nat.reduceLeDiff, reduceIte, g9]) (by simp only [go_sem, Nat.reduceEqDiff, Nat.reduceAdd, Nat.reduceLT, Nat.reduceLeDiff, reduceIte, g10]) (by simp only [go_sem, Nat.reduceEqDiff, Nat.reduceAdd, Nat.reduceLT, Nat.reduceLeDiff, reduceIte]) v2 tk2 a2' (by simp only [go_sem, Nat.reduceEqDiff, Nat.reduceAdd, Nat.reduceLT, Nat.reduceLeDiff, reduceIte])
    · have a1B := a1 (bl ++ j2)
      simp only [go_sem, Nat.reduceEqDiff, Nat.reduceAdd, Nat.reduceLT, Nat.reduceLeDiff, reduceIte, g1, g3, g4, g5, g9, g10, g11, decide_eq_false hmT, a1B, wrap_n1 r (by omega)]
      exact fin _ j2 (fun h => absurd h hmT) (by simp only [go_sem, Nat.reduceEqDiff, Nat.reduceAdd, Nat.reduceLT, Nat.reduceLeDiff, reduceIte, g1]) (by simp only [go_sem, Nat.reduceEqDiff, Nat.reduceAdd, Nat.reduceLT, Nat.reduceLeDiff, reduceIte, g9]) (by simp only [go_sem, Nat.reduceEqDiff, Nat.reduceAdd, Nat.reduceLT, Nat.reduceLeDiff, reduceIte, g10]) (by simp only [go_sem, Nat.reduceEqDiff, Nat.reduceAdd, Nat.reduceLT, Nat.reduceLeDiff, reduceIte]) v2 tk2 a2' (by simp only [go_sem, Nat.reduceEqDiff, Nat.reduceAdd, Nat.reduceLT, Nat.reduceLeDiff, reduceIte])
  · have hre : r = h.p.length := by omega
    subst hre
    obtain ⟨t, rfl⟩ := hA.sl
    simp only [go_sem, Nat.reduceEqDiff, Nat.reduceAdd, Nat.reduceLT, Nat.reduceLeDiff, reduceIte, g1, g3, g9, g10, g11, dec_ge (Nat.le_refl h.p.length)]
    exact hK _ _ _ _ hl hI
/-! ### What no plan exceeds -/
structure IsM (h : Ho) (T : Int) (n : Int) : Prop where
  is : ∃ H, HrOK h T H ∧ bnd h T H = n
  le : ∀ H, HrOK h T H → n ≤ bnd h T H
theorem IsM.uniq {h : Ho} {T n n' : Int} (a : IsM h T n) (b : IsM h T n') : n = n' := by
  obtain ⟨H, h1, h2⟩ := a.is
  obtain ⟨H', h3, h4⟩ := b.is
  have := a.le H' h3
  have := b.le H h1
  omega
def hf (hs : List Int) : Nat → Int := fun r => (hs[r]?).getD 0
theorem IsM_of {h : Ho} (hV : HV h) {T : Int} (hT : 0 ≤ T) {U : US} {val : Int} {S : SS} (F : Flow h T U val) (hC : Cut h T U S) {hs : List Int} (hI : ∀ r, r < h.p.length → ∃ H, hs[r]? = some H ∧ IsHour S T r H) : IsM h T val ∧ HrOK h T (hf hs) ∧ bnd h T (hf hs) = val := by
  have hH : ∀ r, r < h.p.length → IsHour S T r (hf hs r) := fun r hr => by
    obtain ⟨H, h1, h2⟩ := hI r hr
    unfold hf; rw [h1]; exact h2
  have h1 := bnd_eq hV hT F hC hH
  have h2 : HrOK h T (hf hs) := fun r hr => ⟨(hH r hr).h0, (hH r hr).h1⟩
  obtain ⟨p1, p2⟩ := F.plan hV hT
  exact ⟨⟨⟨_, h2, h1⟩, fun H hHr => by rw [← p2]; exact weak hV hT p1 hHr⟩, h2, h1⟩
/-- Hours there are. -/
theorem hour_ex (S : SS) {T : Int} (hT : 0 ≤ T) (r : Nat) : ∃ H, IsHour S T r H := by
  have key : ∀ k : Nat, (k : Int) ≤ T + 1 → (∀ m : Nat, m < k → S (ndI T r m) = false) → ∃ H, IsHour S T r H := by
    intro k
    induction hk : (T + 1).toNat - k generalizing k with
    | zero =>
      intro h1 h2
      exact ⟨k, by omega, h1, fun m hm => h2 m (by omega), fun h3 => by omega⟩
    | succ n ih =>
      intro h1 h2
      cases hs : S (ndI T r k) with
      | true => exact ⟨k, by omega, h1, fun m hm => h2 m (by omega), fun _ => hs⟩
      | false =>
        refine ih (k + 1) (by omega) (by omega) fun m hm => ?_
        by_cases hmk : m = k
        · subst hmk; exact hs
        · exact h2 m (by omega)
  exact key 0 (by omega) fun m hm => by omega
theorem IsM_flow {h : Ho} (hV : HV h) {T : Int} (hT : 0 ≤ T) {U : US} {val : Int} {S : SS} (F : Flow h T U val) (hC : Cut h T U S) : IsM h T val := by
  have : ∃ H : Nat → Int, ∀ r, IsHour S T r (H r) := ⟨fun r => Classical.choose (hour_ex S hT r), fun r => Classical.choose_spec (hour_ex S hT r)⟩
  obtain ⟨H, hH⟩ := this
  obtain ⟨p1, p2⟩ := F.plan hV hT
  exact ⟨⟨H, fun r _ => ⟨(hH r).h0, (hH r).h1⟩, bnd_eq hV hT F hC fun r _ => hH r⟩, fun H' hH' => by rw [← p2]; exact weak hV hT p1 hH'⟩
theorem outV_eq {h : Ho} (hV : HV h) {T : Int} (hT : 0 ≤ T) {U : US} {val : Int} (F : Flow h T U val) : outV h T U = val := by
  rw [← F.out hV hT]
  unfold outV
  refine sumR_congr fun i hi => ?_
  split
  · rename_i ht
    rw [sumR_cut (nM_le hV hT hi) fun m h1 h2 => F.late hV hT hi h1]
  · exact (sumR_zero _).symm
theorem Flow.pb {h : Ho} (hV : HV h) {T : Int} (hT : 0 ≤ T) {U : US} {val : Int} (F : Flow h T U val) (i m : Nat) (hi : i < h.s.length) : 0 ≤ U ((i : Int), (m : Int)) ∧ U ((i : Int), (m : Int)) ≤ 1000 := by
  have h1 := F.pn hV hT (m := m) hi
  have h2 := (hV.sv _ (pq_mem hi)).w1
  omega
theorem fldT (h : Ho) (T : Int) (um ar sn N : Nat) : fldAt (floV h T um ar sn N) 0 (some 4) = some (timV h T um) := rfl
attribute [go_sem] fldT
theorem Most_ok {h : Ho} (hV : HV h) {T : Int} (hT0 : 0 ≤ T) (hT : T ≤ 60) : ∃ n, IsM h T n ∧ RV ft 21 [encH h, I64 T] (.tup [I64 n, I64 0]) := by
  have key : WR ft (.f 21) [encH h, I64 T] .nil fun a m => ∃ n, IsM h T n ∧ snap m dep a = .tup [I64 n, I64 0] := by
    rw [WR_f ft21 rfl]
    simp only [c21, r21]
    have hc := checkMinute_ok h (by have := hV.n6; omega) (by have := hV.sl; omega) T
    have he : errM h T = 0 := by unfold errM; rw [if_pos (vHo_iff.2 hV), if_pos (isW_iff.2 ⟨hT0, hT⟩)]
    rw [he] at hc
    obtain ⟨N, hN⟩ : ∃ N : Nat, nN h T = N := Int.eq_ofNat_of_zero_le (by unfold nN; have := Int.mul_nonneg (show (0 : Int) ≤ h.p.length by omega) (show 0 ≤ T + 1 by omega); omega)
    simp only [go_sem, Nat.reduceEqDiff, Nat.reduceAdd, Nat.reduceLT, Nat.reduceLeDiff, reduceIte, HEta, WB40, WVH_eq hc, true_and, bne_self_eq_false, WB46]
    refine emptied_W hV hT0 hT hN fun w S val bl' tk' hI hF hC hfr => ?_
    have hb0 := hfr 0 (by simp)
    simp only [go_sem, Nat.reduceEqDiff, Nat.reduceAdd, Nat.reduceLT, Nat.reduceLeDiff, reduceIte, HEta, WB43]
    refine out_W (h := h) (T := T) hV.sl hT0 hT hI.srt (fun i m hi => hF.pb hV hT0 i m hi) hI.um fun j => ?_
    rw [outV_eq hV hT0 hF]
    simp only [go_sem, Nat.reduceEqDiff, Nat.reduceAdd, Nat.reduceLT, Nat.reduceLeDiff, reduceIte]
    exact ⟨val, IsM_flow hV hT0 hF hC, by first | trivial | rfl⟩
  obtain ⟨n, p, e1, v, hv, e2⟩ := key
  exact ⟨v, hv, n, by simp only [callV, e1, Option.map_some, e2]⟩
end Go.Ab.T
end
