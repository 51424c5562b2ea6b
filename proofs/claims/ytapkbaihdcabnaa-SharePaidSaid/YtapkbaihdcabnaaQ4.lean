/-
  A part of the proofs over this seat.
  (The texts KsM7 KsK23, one behind the other.)
-/
import Derived.Test.YtapkbaihdcabnaaQ2
import Derived.Test.YtapkbaihdcabnaaP5
import Derived.Test.YtapkbaihdcabnaaQ3
set_option linter.unusedSimpArgs false
set_option linter.unusedVariables false
set_option linter.unusedSectionVars false
section
namespace Go.Ab.T
/-! ### All that can be due -/
def sumR (p : Rp → Bool) : List Rp → Int
  | [] => 0
  | r :: l => (if p r = true then r.cents else 0) + sumR p l
theorem sumR_nn (p : Rp → Bool) : ∀ {l : List Rp}, (∀ r ∈ l, RV' r) → 0 ≤ sumR p l
  | [], _ => Int.le_refl _
  | r :: l, h => by
    have h1 := sumR_nn p fun x hx => h x (List.mem_cons_of_mem _ hx)
    have h2 := (h r (by simp)).c0
    unfold sumR
    split <;> omega
theorem sumR_mem {p : Rp → Bool} : ∀ {l : List Rp}, (∀ r ∈ l, RV' r) → ∀ r ∈ l, p r = true → r.cents ≤ sumR p l
  | x :: l, h, r, hr, hp => by
    have hl : ∀ r ∈ l, RV' r := fun y hy => h y (List.mem_cons_of_mem _ hy)
    unfold sumR
    rcases List.mem_cons.1 hr with rfl | hr'
    · rw [if_pos hp]
      have := sumR_nn p hl; omega
    · have h1 := sumR_mem hl r hr' hp
      have h2 := (h x (by simp)).c0
      split <;> omega
theorem sumT_add (f g : Nat → Int) : ∀ n, sumT (fun t => f t + g t) n = sumT f n + sumT g n
  | 0 => rfl
  | n + 1 => by simp only [sumT, sumT_add f g n]; omega
theorem sumT_le {f g : Nat → Int} : ∀ n, (∀ t, t < n → f t ≤ g t) → sumT f n ≤ sumT g n
  | 0, _ => Int.le_refl _
  | n + 1, h => by
    have h1 := sumT_le n fun t ht => h t (by omega)
    have h2 := h n (by omega)
    simp only [sumT]; omega
/-- Something that is there for one number only. -/
theorem sumT_once {g : Nat → Int} {c key base : Int} (c0 : 0 ≤ c) (hg : ∀ t : Nat, g t = 0 ∨ (g t = c ∧ base + t = key)) : ∀ n : Nat, sumT g n ≤ c ∧ (base + n ≤ key → sumT g n = 0)
  | 0 => ⟨c0, fun _ => rfl⟩
  | n + 1 => by
    have ih := sumT_once c0 hg n
    simp only [sumT]
    rcases hg n with h | ⟨h, hk⟩
    · rw [h]
      exact ⟨by omega, fun hb => by have := ih.2 (by omega); omega⟩
    · have := ih.2 (by omega)
      rw [h, this]
      exact ⟨by omega, fun hb => by omega⟩
theorem sumT_sumR (P : Nat → Rp → Bool) (q : Rp → Bool) (base : Int) (key : Rp → Int) (hP : ∀ t r, P t r = true → q r = true ∧ base + (t : Int) = key r) (n : Nat) : ∀ {l : List Rp}, (∀ r ∈ l, RV' r) → sumT (fun t => sumR (P t) l) n ≤ sumR q l
  | [], _ => by show sumT (fun _ => 0) n ≤ 0; rw [sumT_zero]; exact Int.le_refl _
  | r :: l, h => by
    have ih := sumT_sumR P q base key hP n fun x hx => h x (List.mem_cons_of_mem _ hx)
    have h2 := (h r (by simp)).c0
    show sumT (fun t => (if P t r = true then r.cents else 0) + sumR (P t) l) n ≤ (if q r = true then r.cents else 0) + sumR q l
    rw [sumT_add]
    have h3 := (sumT_once (g := fun t => if P t r = true then r.cents else 0) (c := if q r = true then r.cents else 0) (key := key r) (base := base) (by split <;> omega) (fun t => by
      by_cases hp : P t r = true
      · obtain ⟨h4, h5⟩ := hP t r hp
        exact .inr ⟨by rw [if_pos hp, if_pos h4], h5⟩
      · exact .inl (if_neg hp)) n).1
    omega
theorem gross_le {l : List Rp} (hl : ∀ r ∈ l, RV' r) (f w : Int) : gross l f w ≤ sumR (isOf f w) l := by
  unfold gross
  cases hp : pick (audP f w) l with
  | some r =>
    have h := pick_mem hp
    refine sumR_mem hl r h.1 ?_
    have := h.2
    unfold audP at this
    exact (Bool.and_eq_true _ _ ▸ this).1
  | none =>
    have h1 : sumT (tilC l f w) 10 ≤ sumT (fun t => sumR (tilP f w (t : Int)) l) 10 := sumT_le 10 fun t _ => by
      unfold tilC
      cases ht : pick (tilP f w (t : Int)) l with
      | none => exact sumR_nn _ hl
      | some r => exact sumR_mem hl r (pick_mem ht).1 (pick_mem ht).2
    refine Int.le_trans h1 (sumT_sumR (fun t => tilP f w (t : Int)) (isOf f w) 0 (fun r => r.till) (fun t r h => ?_) 10 hl)
    unfold tilP at h
    simp only [Bool.and_eq_true, beq_iff_eq] at h
    exact ⟨h.1, by omega⟩
theorem sumR_all : ∀ {l : List Rp}, (∀ r ∈ l, RV' r) → sumR (fun _ => true) l ≤ l.length * 10000000
  | [], _ => by show (0 : Int) ≤ _; simp
  | r :: l, h => by
    have ih := sumR_all fun x hx => h x (List.mem_cons_of_mem _ hx)
    have h2 := (h r (by simp)).c1
    rw [List.length_cons]
    show (if true = true then r.cents else 0) + sumR (fun _ => true) l ≤ _
    rw [if_pos rfl]; omega
theorem gross_weeks {l : List Rp} (hl : ∀ r ∈ l, RV' r) (f fi : Int) (n : Nat) : sumT (fun k => gross l f (fi + k)) n ≤ l.length * 10000000 := by
  have h1 : sumT (fun k => gross l f (fi + k)) n ≤ sumT (fun k => sumR (isOf f (fi + (k : Int))) l) n := sumT_le n fun t _ => gross_le hl f _
  have h2 := sumT_sumR (fun k => isOf f (fi + (k : Int))) (fun _ => true) fi (fun r => r.week) (fun t r h => by
    unfold isOf at h
    simp only [Bool.and_eq_true, beq_iff_eq] at h
    exact ⟨rfl, by omega⟩) n hl
  have h3 := sumR_all hl
  omega
theorem sh_le {b : Bk} (hb : BV b) (c : Ct) (w : Int) : (acc b c w).sh ≤ gross b.rs c.film w := by
  have h1 := gross_bound hb.rv c.film w
  have h2 := net_bound hb.x0 hb.x1 h1.1
  show min _ (netOf b.tax (gross b.rs c.film w)) ≤ _
  omega
theorem shSum_le {b : Bk} (hb : BV b) (c : Ct) : ∀ n : Nat, shSum b c n ≤ sumT (fun k => gross b.rs c.film (c.fi + k)) n
  | 0 => Int.le_refl _
  | n + 1 => by
    have h1 := shSum_le hb c n
    have h2 := sh_le hb c (c.fi + n)
    simp only [shSum, sumT]; omega
theorem due_small {b : Bk} (hb : BV b) {c : Ct} (hc : CV c) (w : Int) : dueM b c w ≤ 400000000 := by
  have hr := hb.rl
  have g1 := hc.g1
  have key : ∀ n : Nat, shSum b c n ≤ 400000000 := fun n => by
    have h1 := shSum_le hb c n
    have h2 := gross_weeks hb.rv c.film c.fi n
    omega
  unfold dueM
  split
  · exact key _
  · have := key (c.la - c.fi + 1).toNat; omega
/-! ### When what is left is paid -/
theorem paidS_zero {f : Int} : ∀ {l : List Py}, (∀ p ∈ l, p.film ≠ f) → paidS f l = 0
  | [], _ => rfl
  | p :: l, h => by
    rw [paidS_cons, paidS_zero fun q hq => h q (List.mem_cons_of_mem _ hq), if_neg (by simpa using h p (by simp))]; rfl
theorem flat_film {S : List Ct} {h : Ct → List Py} (hh : ∀ c ∈ S, ∀ p ∈ h c, p.film = c.film) {f : Int} (hf : ∀ c ∈ S, c.film ≠ f) : paidS f (S.flatMap h) = 0 := by
  refine paidS_zero fun p hp => ?_
  obtain ⟨c, hc, hp⟩ := List.mem_flatMap.1 hp
  rw [hh c hc p hp]; exact hf c hc
theorem paid_flat {h : Ct → List Py} : ∀ {S : List Ct}, (S.Pairwise fun a b => a.film ≠ b.film) → (∀ c ∈ S, ∀ p ∈ h c, p.film = c.film) → ∀ c ∈ S, paidS c.film (S.flatMap h) = paidS c.film (h c)
  | d :: S, hn, hh, c, hc => by
    rw [List.pairwise_cons] at hn
    have hh' : ∀ c ∈ S, ∀ p ∈ h c, p.film = c.film := fun x hx => hh x (List.mem_cons_of_mem _ hx)
    rw [show (d :: S).flatMap h = h d ++ S.flatMap h from rfl, paidS_app]
    rcases List.mem_cons.1 hc with rfl | hc'
    · rw [flat_film hh' fun x hx e => hn.1 x hx e.symm, Int.add_zero]
    · rw [paid_flat hn.2 hh' c hc', paidS_zero fun p hp => by rw [hh d (by simp) p hp]; exact hn.1 c hc']
      omega
theorem payC_film (b : Bk) (w : Int) (l : List Py) (c : Ct) : ∀ p ∈ payC b w l c, p.film = c.film := by
  unfold payC; split <;> simp
theorem ovrC_film (b : Bk) (w : Int) (l : List Py) (c : Ct) : ∀ p ∈ ovrC b w l c, p.film = c.film := by
  unfold ovrC; split <;> simp
theorem payC_paid (b : Bk) (w : Int) (l : List Py) (c : Ct) : paidS c.film (payC b w l c) = max (lftM b w l c) 0 := by
  unfold payC
  split
  · rw [paidS_cons, if_pos (by simp)]
    show 0 + _ = _
    dsimp only; omega
  · show (0 : Int) = _
    omega
theorem ovrC_paid (b : Bk) (w : Int) (l : List Py) (c : Ct) : paidS c.film (ovrC b w l c) = max (-lftM b w l c) 0 := by
  unfold ovrC
  split
  · rw [paidS_cons, if_pos (by simp)]
    show 0 + _ = _
    dsimp only; omega
  · show (0 : Int) = _
    omega
theorem flat_congr {S : List Ct} {f g : Ct → List Py} (h : ∀ c ∈ S, f c = g c) : S.flatMap f = S.flatMap g := by
  induction S with
  | nil => rfl
  | cons c S ih => rw [show (c :: S).flatMap f = f c ++ S.flatMap f from rfl, show (c :: S).flatMap g = g c ++ S.flatMap g from rfl, h c (by simp), ih fun d hd => h d (by simp [hd])]
theorem flat_nil {S : List Ct} {f : Ct → List Py} (h : ∀ c ∈ S, f c = []) : S.flatMap f = [] := by
  induction S with
  | nil => rfl
  | cons c S ih => rw [show (c :: S).flatMap f = f c ++ S.flatMap f from rfl, h c (by simp), ih fun d hd => h d (by simp [hd])]; rfl
theorem flat_lens {f g : Ct → List Py} (h : ∀ c, (f c).length + (g c).length ≤ 1) : ∀ S : List Ct, (S.flatMap f).length + (S.flatMap g).length ≤ S.length
  | [] => Nat.le_refl _
  | c :: S => by
    rw [show (c :: S).flatMap f = f c ++ S.flatMap f from rfl, show (c :: S).flatMap g = g c ++ S.flatMap g from rfl, List.length_append, List.length_append, List.length_cons]
    have := flat_lens h S
    have := h c
    omega
structure PaidF (b : Bk) (w : Int) (l : List Py) : Prop where
  ok : psOK b.cs (l ++ payL b w l) = true
  no : payL b w (l ++ payL b w l) = []
  same : ovrL b w (l ++ payL b w l) = ovrL b w l
  len : (payL b w l).length + (ovrL b w l).length ≤ b.cs.length
  sum : ∀ c ∈ b.cs, paidS c.film (l ++ payL b w l) - paidS c.film (ovrL b w l) = dueM b c w
  ov : ∀ p ∈ ovrL b w l, 0 ≤ p.cents ∧ p.cents ≤ 100000000000
theorem paidF {b : Bk} (hb : BV b) (w : Int) {l : List Py} (hl : l.length ≤ 80) (hp : psOK b.cs l = true) {S : List Ct} (s1 : S.Perm b.cs) (s2 : S.Pairwise fun a b => a.film ≤ b.film) : PaidF b w l := by
  have hn : S.Pairwise fun a b => a.film ≠ b.film := s1.symm.pairwise hb.dist fun h => Ne.symm h
  have q1 : ∀ l, payL b w l = S.flatMap (payC b w l) := fun l => ord_sorted hb s1 s2 _
  have q2 : ∀ l, ovrL b w l = S.flatMap (ovrC b w l) := fun l => ord_sorted hb s1 s2 _
  have hP := psOK_PB hp
  have f1 : ∀ c ∈ S, paidS c.film (payL b w l) = max (lftM b w l c) 0 := fun c hc => by
    rw [q1, paid_flat hn (fun c _ => payC_film b w l c) c hc, payC_paid]
  have f2 : ∀ c ∈ S, paidS c.film (ovrL b w l) = max (-lftM b w l c) 0 := fun c hc => by
    rw [q2, paid_flat hn (fun c _ => ovrC_film b w l c) c hc, ovrC_paid]
  have f3 : ∀ c ∈ S, lftM b w (l ++ payL b w l) c = min (lftM b w l c) 0 := fun c hc => by
    show dueM b c w - paidS c.film (l ++ payL b w l) = _
    rw [paidS_app, f1 c hc]
    have : lftM b w l c = dueM b c w - paidS c.film l := rfl
    omega
  have hlen : (payL b w l).length + (ovrL b w l).length ≤ b.cs.length := by
    rw [q1, q2, ← s1.length_eq]
    refine flat_lens (fun c => ?_) S
    unfold payC ovrC
    split
    · rw [if_neg (by omega)]; simp
    · split <;> simp
  have hcl := hb.cl
  refine ⟨?_, ?_, ?_, hlen, ?_, ?_⟩
  · unfold psOK at hp ⊢
    simp only [Bool.and_eq_true, decide_eq_true_eq, List.all_eq_true] at hp ⊢
    refine ⟨by rw [List.length_append]; omega, fun p hp' => ?_⟩
    rcases List.mem_append.1 hp' with h | h
    · exact hp.2 p h
    · rw [q1] at h
      obtain ⟨c, hc, h⟩ := List.mem_flatMap.1 h
      have hc' := s1.mem_iff.1 hc
      have hd := due_small hb (hb.cv c hc') w
      have hs := (hP.s c.film).1
      unfold payC at h
      split at h
      · rename_i h0
        rw [List.mem_singleton] at h
        subst h
        unfold pyOK
        rw [hb.find hc']
        unfold lftM at h0 ⊢
        exact inR_iff.2 ⟨by dsimp only; omega, by dsimp only; omega⟩
      · cases h
  · rw [q1]
    exact flat_nil fun c hc => by
      unfold payC
      rw [f3 c hc, if_neg (by omega)]
  · rw [q2, q2]
    refine flat_congr fun c hc => ?_
    unfold ovrC
    rw [f3 c hc]
    by_cases h : lftM b w l c < 0
    · rw [if_pos (by omega), if_pos h, show min (lftM b w l c) 0 = lftM b w l c by omega]
    · rw [if_neg (by omega), if_neg h]
  · intro c hc
    have hc' := s1.mem_iff.2 hc
    rw [paidS_app, f1 c hc', f2 c hc']
    have : lftM b w l c = dueM b c w - paidS c.film l := rfl
    omega
  · intro p h
    rw [q2] at h
    obtain ⟨c, hc, h⟩ := List.mem_flatMap.1 h
    have h1 := dueM_bound hb (hb.cv c (s1.mem_iff.1 hc)) w
    have h2 := hP.s c.film
    unfold ovrC at h
    split at h
    · rename_i h0
      rw [List.mem_singleton] at h
      subst h
      unfold lftM at h0 ⊢
      dsimp only
      omega
    · cases h
end Go.Ab.T
end

section
namespace Go.Ab.T
set_option maxRecDepth 8000
set_option maxHeartbeats 4000000
theorem Ps_idxT {l : List Py} {k : Nat} {x : Py} (h : l[k]? = some x) (m : Mem) (tk : Tk) : idxAt m (.sl (l.map encP) tk) (I64 (k : Int)) 2 = some (.pv (encP x) 0) := by
  rw [idxAt_sl, if_pos (by omega), Int.toNat_natCast, Ps_get, h]
  rfl
/-- Some more behind a slice that is appended to. -/
theorem AppV.appL {T : Nat} {es ys : List AV} {v : AV} {toks : List (Nat × Nat)} (h : AppV T es v toks) {tk : Tk} {sz bytes : Nat} {blks : List Blk} {K : AV × Mem → Prop}
    (hs : hdSz es sz = true) (hy : hdSz ys sz = true) (hl : (es.length + ys.length) * (bytes + 1) ≤ limit)
    (hk : ∀ v' toks', AppV T (es ++ ys) v' toks' → K (v', ⟨blks, toks'⟩)) : @OptH _ (appendAt ⟨blks, toks⟩ false v (.sl ys tk) T sz bytes) ⟨K⟩ := by
  rcases h with ⟨rfl, rfl⟩ | ⟨hne, t, rfl, ht⟩
  · exact AppV.copy hy (by simpa using hl) fun v' toks' h _ _ => hk v' toks' h
  · simp only [appendAt, Mem.elems, hy, hs, OptH, appTk]
    rw [if_neg (by simp), if_pos ⟨hl, trivial⟩]
    simp only [Bool.false_eq_true, if_false]
    by_cases hy0 : ys = []
    · subst hy0
      rw [List.append_nil] at hk ⊢
      exact hk _ _ (.inr ⟨hne, t, rfl, ht⟩)
    · have h1 : ys.length ≠ 0 := by simpa using hy0
      have h2 : es.length ≠ 0 := by simpa using hne
      rw [if_neg h1, if_pos ⟨ht, h2⟩]
      have hlt := (List.getElem?_eq_some_iff.1 ht).1
      exact hk _ _ (.inr ⟨by simp [hne], t, rfl, by simp [hlt]⟩)
theorem SharePaid_run (b : Bk) (w : Int) (l : List Py) : RV ft 7 [encB b, I64 w, encPs l] (.bool true) := by
  refine RV_of ft7 rfl ?_
  simp only [c7, r7]
  cases h1 : farM b
  case true => simp only [go_sem, Nat.reduceEqDiff, Nat.reduceAdd, Nat.reduceLT, Nat.reduceLeDiff, reduceIte, WB14, WVH_eq (Far_ok b), true_and, h1, WB16, WVH_eq works_ok]
  have hF := farM_NF h1
  have hC := CheckR_ok b hF
  by_cases h0 : chk b = 0
  case neg => simp only [go_sem, Nat.reduceEqDiff, Nat.reduceAdd, Nat.reduceLT, Nat.reduceLeDiff, reduceIte, WB14, WVH_eq (Far_ok b), true_and, h1, WB15, WVH_eq hC, ne0 h0, WB16, WVH_eq works_ok]
  rw [h0] at hC
  have z : ((0 : Int) != 0) = false := rfl
  cases c1 : decide (w < 0)
  case true => simp only [go_sem, Nat.reduceEqDiff, Nat.reduceAdd, Nat.reduceLT, Nat.reduceLeDiff, reduceIte, WB14, WVH_eq (Far_ok b), true_and, h1, WB15, WVH_eq hC, z, c1, WB16, WVH_eq works_ok]
  cases c2 : decide (99 < w)
  case true => simp only [go_sem, Nat.reduceEqDiff, Nat.reduceAdd, Nat.reduceLT, Nat.reduceLeDiff, reduceIte, WB14, WVH_eq (Far_ok b), true_and, h1, WB15, WVH_eq hC, z, c1, c2, WB16, WVH_eq works_ok]
  cases c3 : decide ((80 : Int) < (l.length : Int))
  case true => simp only [go_sem, Nat.reduceEqDiff, Nat.reduceAdd, Nat.reduceLT, Nat.reduceLeDiff, reduceIte, WB14, WVH_eq (Far_ok b), true_and, h1, WB15, WVH_eq hC, z, c1, c2, c3, WB16, WVH_eq works_ok]
  have hl : l.length ≤ 80 := by have := of_decide_eq_false c3; omega
  have hA := ArePaid_ok b l hF.c (by omega)
  cases c4 : psOK b.cs l
  case false =>
    rw [c4] at hA
    simp only [go_sem, Nat.reduceEqDiff, Nat.reduceAdd, Nat.reduceLT, Nat.reduceLeDiff, reduceIte, WB14, WVH_eq (Far_ok b), true_and, h1, WB15, WVH_eq hC, z, c1, c2, c3, WB27, WVH_eq hA, WB16, WVH_eq works_ok]
  rw [c4] at hA
  have hb := chk_BV h0
  have hcl := hb.cl
  have w0 : 0 ≤ w := by have := of_decide_eq_false c1; omega
  have w1 : w ≤ 99 := by have := of_decide_eq_false c2; omega
  have hw : wkR w = true := inR_iff.2 ⟨w0, w1⟩
  obtain ⟨S, s1, s2, _⟩ := byFilm_ok b.cs (by omega)
  have F := paidF hb w hl c4 s1 s2
  have hM : payM b w l = ((payL b w l, ovrL b w l), 0) := by unfold payM; rw [if_pos h0, if_pos hw, if_pos c4]
  have hP := Pay_ok b hF w l (by omega)
  rw [hM] at hP
  have hM2 : payM b w (l ++ payL b w l) = (([], ovrL b w l), 0) := by unfold payM; rw [if_pos h0, if_pos hw, if_pos F.ok, F.no, F.same]
  have hL := F.len
  have hP2 := Pay_ok b hF w (l ++ payL b w l) (by rw [List.length_append]; omega)
  rw [hM2] at hP2
  have hA2 := ArePaid_ok b (l ++ payL b w l) hF.c (by rw [List.length_append]; omega)
  rw [F.ok] at hA2
  have hPB := psOK_PB F.ok
  have hsum := F.sum
  have hov := F.ov
  clear F hM hM2
  generalize payL b w l = P at hP hP2 hL hA2 hPB hsum
  generalize ovrL b w l = V at hP hP2 hL hsum hov
  have w2 : IntKind.i64.wrap ((P.length : Int) + (V.length : Int)) = (P.length : Int) + (V.length : Int) := wrap_i64 _ (by omega) (by omega)
  have c5 : decide ((b.cs.length : Int) < (P.length : Int) + (V.length : Int)) = false := decide_eq_false (by omega)
  simp only [go_sem, Nat.reduceEqDiff, Nat.reduceAdd, Nat.reduceLT, Nat.reduceLeDiff, reduceIte, WB14, WVH_eq (Far_ok b), true_and, h1, WB15, WVH_eq hC, z, c1, c2, c3, WB27, WVH_eq hA, WB28, WVH_eq hP, w2, c5]
  show @OptH _ (appendAt _ false (.sl [] .tight) (.sl (l.map encP) .unk) 67 2 16) ⟨_⟩
  refine AppV.copy (T := 67) (ys := l.map encP) (hdSz_map' encP 2 _ fun _ => rfl) (by rw [List.length_map]; unfold limit; omega) fun v1 toks1 hv1 _ _ => ?_
  simp only [go_sem, Nat.reduceEqDiff, Nat.reduceAdd, Nat.reduceLT, Nat.reduceLeDiff, reduceIte]
  show @OptH _ (appendAt _ false v1 (.sl (P.map encP) .unk) 67 2 16) ⟨_⟩
  refine hv1.appL (hdSz_map' encP 2 _ fun _ => rfl) (hdSz_map' encP 2 _ fun _ => rfl) (by rw [List.length_map, List.length_map]; unfold limit; omega) fun v2 toks2 hv2 => ?_
  rw [← List.map_append] at hv2
  obtain ⟨k2, rfl⟩ := hv2.sl
  obtain ⟨A, hAe⟩ : ∃ A, A = l ++ P := ⟨_, rfl⟩
  rw [← hAe] at hA2 hP2 hPB hsum ⊢
  have e1 : ∀ m, snap m 12 (.sl (A.map encP) k2) = encPs A := fun m => snPsT m 9 A k2
  have e2 : hot 12 (.sl (A.map encP) k2) = false := hotPsT 9 A k2
  have hAl := hPB.len
  have z2 : decide ((0 : Int) < ((0 : Nat) : Int)) = false := rfl
  have en : (encPs []) = .sl [] .unk := rfl
  simp only [go_sem, Nat.reduceEqDiff, Nat.reduceAdd, Nat.reduceLT, Nat.reduceLeDiff, reduceIte, e1, e2, WB27, WVH_eq hA2, WB28, WVH_eq hP2, true_and, z, List.length_nil, z2, WB29, WVH_eq (samePaid_ok V (by omega))]
  refine WL_inv (α := Nat × List Ct) (fun q e mm => e 1 = I64 w ∧ e 3 = .ptr 0 0 0 ∧ e 8 = encPs V ∧ e 10 = .sl (A.map encP) k2 ∧ e 14 = I64 q.1 ∧ b.cs.drop q.1 = q.2 ∧ ∃ bl tk, mm = ⟨.live [encB b] 3 :: bl, tk⟩) (fun q => q.2.length) (0, b.cs) ?_ ?_
  · simp only [go_sem, Nat.reduceEqDiff, Nat.reduceAdd, Nat.reduceLT, Nat.reduceLeDiff, reduceIte]
    exact ⟨trivial, trivial, trivial, trivial, rfl, trivial, _, _, rfl⟩
  rintro ⟨k, r⟩ e m ⟨g1, g3, g8, g10, g14, hd, bl, tk, rfl⟩
  dsimp only at g14 hd
  cases r with
  | nil =>
    have h3 := drop_nil hd
    simp only [go_sem, Nat.reduceEqDiff, Nat.reduceAdd, Nat.reduceLT, Nat.reduceLeDiff, reduceIte, g1, g3, g8, g10, g14, dec_ge h3, WB16, WVH_eq works_ok, true_and]
  | cons x r =>
    obtain ⟨hk, hd2, hlt⟩ := drop_cons hd
    have hm := List.mem_of_getElem? hk
    have hD := Due_ok b hF x.film w
    rw [dueMM_some h0 (hb.find hm) w0 w1] at hD
    have hs := hsum x hm
    have hpb := hPB.s x.film
    have hdb := dueM_bound hb (hb.cv x hm) w
    have q5 : leftG x.film (paidS x.film A) V = dueM b x w := by rw [leftG_eq]; exact hs
    generalize dueM b x w = D at hD hs hdb q5
    simp only [go_sem, Nat.reduceEqDiff, Nat.reduceAdd, Nat.reduceLT, Nat.reduceLeDiff, reduceIte, g1, g3, g8, g10, g14, dec_lt hlt, Cs_idx hk]
    refine WL_inv (α := Nat × List Py × Int) (fun q e mm => e 1 = I64 w ∧ e 3 = .ptr 0 0 0 ∧ e 8 = encPs V ∧ e 10 = .sl (A.map encP) k2 ∧ e 14 = I64 k ∧ e 15 = I64 x.film ∧ e 16 = I64 q.2.2 ∧ e 17 = I64 q.1 ∧ A.drop q.1 = q.2.1 ∧ paidG x.film q.2.2 q.2.1 = paidS x.film A ∧ 0 ≤ q.2.2 ∧ q.2.2 ≤ q.1 * 1000000000 ∧ ∃ bl tk, mm = ⟨.live [encB b] 3 :: bl, tk⟩) (fun q => q.2.1.length) (0, A, 0) ?_ ?_
    · simp only [go_sem, Nat.reduceEqDiff, Nat.reduceAdd, Nat.reduceLT, Nat.reduceLeDiff, reduceIte, g1, g3, g8, g10, g14]
      exact ⟨trivial, trivial, trivial, trivial, trivial, trivial, trivial, rfl, trivial, rfl, Int.le_refl _, by simp, _, _, rfl⟩
    rintro ⟨j, r2, a⟩ e m ⟨g1, g3, g8, g10, g14, g15, g16, g17, hd, hq, a0, a1, bl, tk, rfl⟩
    dsimp only at g16 g17 hd hq a0 a1
    cases r2 with
    | cons y r2 =>
      obtain ⟨hj, hd3, hlj⟩ := drop_cons hd
      have hy := hPB.c y (List.mem_of_getElem? hj)
      rw [paidG_cons] at hq
      cases e5 : (y.film == x.film)
      · rw [e5, if_neg (by decide)] at hq
        simp only [go_sem, Nat.reduceEqDiff, Nat.reduceAdd, Nat.reduceLT, Nat.reduceLeDiff, reduceIte, g1, g3, g8, g10, g14, g15, g16, g17, List.length_map, dec_lt hlj, Ps_idxT hj, e5, wrap_n1 j (by omega)]
        refine Nx_of (j + 1, r2, a) (by simp) ?_
        simp only [go_sem, Nat.reduceEqDiff, Nat.reduceAdd, Nat.reduceLT, Nat.reduceLeDiff, reduceIte, g1, g3, g8, g10, g14, g15, g16]
        exact ⟨trivial, trivial, trivial, trivial, trivial, trivial, trivial, trivial, hd3, hq, a0, by omega, _, _, rfl⟩
      · rw [e5, if_pos rfl] at hq
        have w3 : IntKind.i64.wrap (a + y.cents) = a + y.cents := wrap_i64 _ (by omega) (by omega)
        simp only [go_sem, Nat.reduceEqDiff, Nat.reduceAdd, Nat.reduceLT, Nat.reduceLeDiff, reduceIte, g1, g3, g8, g10, g14, g15, g16, g17, List.length_map, dec_lt hlj, Ps_idxT hj, e5, w3, wrap_n1 j (by omega)]
        refine Nx_of (j + 1, r2, a + y.cents) (by simp) ?_
        simp only [go_sem, Nat.reduceEqDiff, Nat.reduceAdd, Nat.reduceLT, Nat.reduceLeDiff, reduceIte, g1, g3, g8, g10, g14, g15]
        exact ⟨trivial, trivial, trivial, trivial, trivial, trivial, trivial, trivial, hd3, hq, by omega, by omega, _, _, rfl⟩
    | nil =>
    have h3 := drop_nil hd
    have hq : a = paidS x.film A := hq
    simp only [go_sem, Nat.reduceEqDiff, Nat.reduceAdd, Nat.reduceLT, Nat.reduceLeDiff, reduceIte, g1, g3, g8, g10, g14, g15, g16, g17, List.length_map, dec_ge h3]
    rw [← hq] at q5 hpb
    obtain ⟨a9, ha9⟩ : ∃ a9, a9 = a := ⟨_, rfl⟩
    refine WL_inv (α := Nat × List Py × Int) (fun q e mm => e 1 = I64 w ∧ e 3 = .ptr 0 0 0 ∧ e 8 = encPs V ∧ e 10 = .sl (A.map encP) k2 ∧ e 14 = I64 k ∧ e 15 = I64 x.film ∧ e 16 = I64 q.2.2 ∧ e 18 = I64 q.1 ∧ V.drop q.1 = q.2.1 ∧ leftG x.film q.2.2 q.2.1 = D ∧ q.2.2 ≤ 100000000000 ∧ -((q.1 : Int) * 100000000000) ≤ q.2.2 ∧ ∃ bl tk, mm = ⟨.live [encB b] 3 :: bl, tk⟩) (fun q => q.2.1.length) (0, V, a) ?_ ?_
    · simp only [go_sem, Nat.reduceEqDiff, Nat.reduceAdd, Nat.reduceLT, Nat.reduceLeDiff, reduceIte, g1, g3, g8, g10, g14, g15, g16]
      exact ⟨trivial, trivial, trivial, trivial, trivial, trivial, trivial, rfl, trivial, q5, hpb.2, by simp; omega, _, _, rfl⟩
    rintro ⟨i, r3, c⟩ e m ⟨g1, g3, g8, g10, g14, g15, g16, g18, hd, hq3, a0, a1, bl, tk, rfl⟩
    dsimp only at g16 g18 hd hq3 a0 a1
    cases r3 with
    | cons y r3 =>
      obtain ⟨hj, hd3, hlj⟩ := drop_cons hd
      have hy := hov y (List.mem_of_getElem? hj)
      rw [leftG_cons] at hq3
      cases e5 : (y.film == x.film)
      · rw [e5, if_neg (by decide)] at hq3
        simp only [go_sem, Nat.reduceEqDiff, Nat.reduceAdd, Nat.reduceLT, Nat.reduceLeDiff, reduceIte, g1, g3, g8, g10, g14, g15, g16, g18, dec_lt hlj, Ps_idx hj, e5, wrap_n1 i (by omega)]
        refine Nx_of (i + 1, r3, c) (by simp) ?_
        simp only [go_sem, Nat.reduceEqDiff, Nat.reduceAdd, Nat.reduceLT, Nat.reduceLeDiff, reduceIte, g1, g3, g8, g10, g14, g15, g16]
        exact ⟨trivial, trivial, trivial, trivial, trivial, trivial, trivial, trivial, hd3, hq3, a0, by omega, _, _, rfl⟩
      · rw [e5, if_pos rfl] at hq3
        have w3 : IntKind.i64.wrap (c - y.cents) = c - y.cents := wrap_i64 _ (by omega) (by omega)
        simp only [go_sem, Nat.reduceEqDiff, Nat.reduceAdd, Nat.reduceLT, Nat.reduceLeDiff, reduceIte, g1, g3, g8, g10, g14, g15, g16, g18, dec_lt hlj, Ps_idx hj, e5, w3, wrap_n1 i (by omega)]
        refine Nx_of (i + 1, r3, c - y.cents) (by simp) ?_
        simp only [go_sem, Nat.reduceEqDiff, Nat.reduceAdd, Nat.reduceLT, Nat.reduceLeDiff, reduceIte, g1, g3, g8, g10, g14, g15]
        exact ⟨trivial, trivial, trivial, trivial, trivial, trivial, trivial, trivial, hd3, hq3, by omega, by omega, _, _, rfl⟩
    | nil =>
    have h3 := drop_nil hd
    have hq3 : c = D := hq3
    subst hq3
    simp only [go_sem, Nat.reduceEqDiff, Nat.reduceAdd, Nat.reduceLT, Nat.reduceLeDiff, reduceIte, g1, g3, g8, g10, g14, g15, g16, g18, dec_ge h3, WB23, WVH_eq hD, true_and, z, bne_self_eq_false, wrap_n1 k (by omega)]
    refine Nx_of (k + 1, r) (by simp) ?_
    simp only [go_sem, Nat.reduceEqDiff, Nat.reduceAdd, Nat.reduceLT, Nat.reduceLeDiff, reduceIte, g1, g3, g8, g10]
    exact ⟨trivial, trivial, trivial, trivial, trivial, hd2, _, _, rfl⟩
end Go.Ab.T
end
