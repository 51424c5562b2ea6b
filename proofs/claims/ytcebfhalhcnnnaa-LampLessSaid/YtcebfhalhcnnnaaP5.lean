/-
  A part of the proofs over this seat.
  (The texts KlM2 KlK0 KlK10 KlK11, one behind the other.)
-/
import Derived.Test.YtcebfhalhcnnnaaP4
import Derived.Test.YtcebfhalhcnnnaaT1
import Derived.KernelRfl
set_option linter.unusedSimpArgs false
set_option linter.unusedVariables false
set_option linter.unusedSectionVars false
section
namespace Go.Ab.T
/-! ### Bounds -/
theorem mmF_spec (num : Ln → Int) : ∀ (r : List Ln) (s : Sp), ((mmF num s r).lo ≤ s.lo ∧ s.hi ≤ (mmF num s r).hi) ∧ (∀ x ∈ r, (mmF num s r).lo ≤ num x ∧ num x ≤ (mmF num s r).hi) ∧ ((mmF num s r).lo = s.lo ∨ ∃ x ∈ r, num x = (mmF num s r).lo) ∧ ((mmF num s r).hi = s.hi ∨ ∃ x ∈ r, num x = (mmF num s r).hi)
  | [], s => ⟨⟨Int.le_refl _, Int.le_refl _⟩, (fun x hx => by cases hx), .inl rfl, .inl rfl⟩
  | y :: r, s => by
    have ih := mmF_spec num r ⟨min s.lo (num y), max s.hi (num y)⟩
    rw [mmF]
    generalize mmF num ⟨min s.lo (num y), max s.hi (num y)⟩ r = R at ih
    obtain ⟨⟨a1, a2⟩, b, c, d⟩ := ih
    dsimp only at a1 a2 c d
    refine ⟨⟨by clear c d; omega, by clear c d; omega⟩, fun x hx => ?_, ?_, ?_⟩
    · clear c d
      rcases List.mem_cons.1 hx with rfl | hx
      · omega
      · exact b x hx
    · clear d
      rcases c with c | ⟨x, hx, c⟩
      · by_cases h : s.lo ≤ num y
        · left; omega
        · right; exact ⟨y, by simp, by omega⟩
      · right; exact ⟨x, by simp [hx], c⟩
    · clear c
      rcases d with d | ⟨x, hx, d⟩
      · by_cases h : num y ≤ s.hi
        · left; omega
        · right; exact ⟨y, by simp, by omega⟩
      · right; exact ⟨x, by simp [hx], d⟩
theorem bnd_spec (num : Ln → Int) {xs : List Ln} (h : xs ≠ []) : (∀ x ∈ xs, (bndM num xs).1.lo ≤ num x ∧ num x ≤ (bndM num xs).1.hi) ∧ (∃ x ∈ xs, num x = (bndM num xs).1.lo) ∧ (∃ x ∈ xs, num x = (bndM num xs).1.hi) := by
  cases xs with
  | nil => exact absurd rfl h
  | cons y r =>
    rw [bndM_cons]
    have hs := mmF_spec num (y :: r) ⟨num y, num y⟩
    dsimp only
    generalize mmF num ⟨num y, num y⟩ (y :: r) = R at hs
    obtain ⟨_, b, c, d⟩ := hs
    refine ⟨b, ?_, ?_⟩
    · rcases c with c | c
      · exact ⟨y, by simp, c.symm⟩
      · exact c
    · rcases d with d | d
      · exact ⟨y, by simp, d.symm⟩
      · exact d
theorem mnF_spec (num : Ln → Int) : ∀ (r : List Ln) (n : Int), mnF num n r ≤ n ∧ (∀ x ∈ r, mnF num n r ≤ num x) ∧ (mnF num n r = n ∨ ∃ x ∈ r, num x = mnF num n r)
  | [], n => ⟨Int.le_refl _, (fun x hx => by cases hx), .inl rfl⟩
  | y :: r, n => by
    have ih := mnF_spec num r (min n (num y))
    rw [mnF]
    generalize mnF num (min n (num y)) r = R at ih
    obtain ⟨a, b, c⟩ := ih
    refine ⟨by clear c; omega, fun x hx => ?_, ?_⟩
    · clear c
      rcases List.mem_cons.1 hx with rfl | hx
      · omega
      · exact b x hx
    · rcases c with c | ⟨x, hx, c⟩
      · by_cases h : n ≤ num y
        · left; omega
        · right; exact ⟨y, by simp, by omega⟩
      · right; exact ⟨x, by simp [hx], c⟩
theorem linM_ne {l : Lm} (hv : LV l) : linM l ≠ [] := by
  have : (⟨l.fu.lo, l.fd.lo⟩ : Ln) ∈ linM l := mem_linM.2 ⟨inR_iff.2 ⟨Int.le_refl _, hv.u1⟩, inR_iff.2 ⟨Int.le_refl _, hv.d1⟩⟩
  intro h; rw [h] at this; cases this
theorem fw_eq (l : Lm) : fwR l = fwM l := by
  unfold fwR fwM
  cases ho : okL l
  · rfl
  have hv := okL_iff.1 ho
  rw [if_pos rfl, if_pos rfl]
  obtain ⟨h1, ⟨x, hx, h2⟩, _⟩ := bnd_spec (fun x => (wrN l.gs x : Int)) (linM_ne hv)
  obtain ⟨a, b, c⟩ := mnF_spec (fun x => (wrN l.gs x : Int)) (linM l) l.gs.length
  have hb := b x hx
  have hxl := wrN_le l.gs x
  rcases c with c | ⟨y, hy, c⟩
  · omega
  · have := (h1 y hy).1
    omega
/-! ### Up to which hour the norm is kept -/
theorem lkF_spec (l : Lm) (x : Ln) : ∀ (n : Nat) (last k : Int), n = (l.ra + 1 - k).toNat → (lkF l x n last k = last ∧ (l.ra < k ∨ inS l.no (lit x k) = false)) ∨ (k ≤ lkF l x n last k ∧ lkF l x n last k ≤ l.ra ∧ (∀ j, k ≤ j → j ≤ lkF l x n last k → inS l.no (lit x j) = true) ∧ (lkF l x n last k = l.ra ∨ inS l.no (lit x (lkF l x n last k + 1)) = false))
  | 0, last, k, h => .inl ⟨rfl, .inl (by omega)⟩
  | n + 1, last, k, h => by
    unfold lkF
    cases hk : inS l.no (lit x k)
    · rw [if_neg (by decide)]; exact .inl ⟨rfl, .inr rfl⟩
    · rw [if_pos rfl]
      right
      rcases lkF_spec l x n k (k + 1) (by omega) with ⟨h1, h2⟩ | ⟨h1, h2, h3, h4⟩
      · rw [h1]
        refine ⟨Int.le_refl _, by omega, fun j j0 j1 => ?_, ?_⟩
        · rw [show j = k by omega]; exact hk
        · rcases h2 with h2 | h2
          · left; omega
          · right; exact h2
      · refine ⟨by omega, h2, fun j j0 j1 => ?_, h4⟩
        by_cases hj : j = k
        · rw [hj]; exact hk
        · exact h3 j (by omega) j1
theorem lastK_spec {l : Lm} {h : Int} (h0 : 0 ≤ h) (r0 : 0 ≤ l.ra) (x : Ln) : (lastK l h x = -1 ∨ h ≤ lastK l h x) ∧ lastK l h x ≤ l.ra ∧ ∀ k, h ≤ k → k ≤ l.ra → (kpR l h k x = true ↔ k ≤ lastK l h x) := by
  have hs := lkF_spec l x (l.ra + 1 - h).toNat (-1) h rfl
  change (lastK l h x = -1 ∧ _) ∨ (h ≤ lastK l h x ∧ lastK l h x ≤ l.ra ∧ (∀ j, h ≤ j → j ≤ lastK l h x → _) ∧ (lastK l h x = l.ra ∨ inS l.no (lit x (lastK l h x + 1)) = false)) at hs
  generalize lastK l h x = L at hs
  have hkp : ∀ k, kpR l h k x = true ↔ ∀ j, h ≤ j → j ≤ k → inS l.no (lit x j) = true := fun k => by
    unfold kpR
    rw [List.all_eq_true]
    exact ⟨fun h j j0 j1 => h j (mem_rgI.2 ⟨j0, j1⟩), fun h j hj => h j (mem_rgI.1 hj).1 (mem_rgI.1 hj).2⟩
  rcases hs with ⟨rfl, h2⟩ | ⟨h1, h2, h3, h4⟩
  · refine ⟨.inl rfl, by omega, fun k k0 k1 => ⟨fun hk => ?_, fun hk => by omega⟩⟩
    rw [hkp] at hk
    have := hk h (Int.le_refl _) k0
    rcases h2 with h2 | h2
    · omega
    · rw [h2] at this; cases this
  · refine ⟨.inr h1, h2, fun k k0 k1 => ?_⟩
    rw [hkp]
    refine ⟨fun hk => ?_, fun hk j j0 j1 => h3 j j0 (by omega)⟩
    rcases h4 with h4 | h4
    · omega
    · rcases Int.lt_or_le L k with hlt | hle
      · have := hk (L + 1) (by omega) (by omega)
        rw [h4] at this; cases this
      · exact hle
/-- What the hours of all lines are together. -/
theorem un_spec {l : Lm} (hv : LV l) {h : Int} (h0 : 0 ≤ h) {xs : List Ln} (hne : xs ≠ []) : ((bndM (lastK l h) xs).1.lo = -1 ∨ h ≤ (bndM (lastK l h) xs).1.lo) ∧ ((bndM (lastK l h) xs).1.hi = -1 ∨ h ≤ (bndM (lastK l h) xs).1.hi) ∧ ((bndM (lastK l h) xs).1.lo ≤ l.ra ∧ (bndM (lastK l h) xs).1.hi ≤ l.ra) ∧ ∀ k, h ≤ k → k ≤ l.ra → (xs.all (kpR l h k) = decide (k ≤ (bndM (lastK l h) xs).1.lo) ∧ xs.any (kpR l h k) = decide (k ≤ (bndM (lastK l h) xs).1.hi)) := by
  obtain ⟨h1, ⟨x, hx, h2⟩, ⟨y, hy, h3⟩⟩ := bnd_spec (lastK l h) hne
  generalize bndM (lastK l h) xs = B at h1 h2 h3
  have sx := lastK_spec h0 hv.r0 x
  have sy := lastK_spec h0 hv.r0 y
  rw [h2] at sx
  rw [h3] at sy
  refine ⟨sx.1, sy.1, ⟨sx.2.1, sy.2.1⟩, fun k k0 k1 => ⟨?_, ?_⟩⟩
  · rw [Bool.eq_iff_iff, List.all_eq_true, decide_eq_true_eq]
    refine ⟨fun h => ((sx.2.2 k k0 k1).1 (h x hx)), fun h z hz => ((lastK_spec h0 hv.r0 z).2.2 k k0 k1).2 ?_⟩
    have := (h1 z hz).1; omega
  · rw [Bool.eq_iff_iff, List.any_eq_true, decide_eq_true_eq]
    refine ⟨fun ⟨z, hz, h⟩ => ?_, fun h => ⟨y, hy, (sy.2.2 k k0 k1).2 h⟩⟩
    have := ((lastK_spec h0 hv.r0 z).2.2 k k0 k1).1 h
    have := (h1 z hz).2; omega
theorem uF_eq {l : Lm} {xs : List Ln} {a lo hi : Int} (hl : lo ≤ l.ra) (hh : hi ≤ l.ra) (hs : ∀ k, a ≤ k → k ≤ l.ra → (xs.all (kpR l a k) = decide (k ≤ lo) ∧ xs.any (kpR l a k) = decide (k ≤ hi))) : ∀ (n : Nat) (k s m : Int), n = (l.ra + 1 - k).toNat → a ≤ k → uF l xs a n k s m = ⟨if k ≤ lo then lo else s, if k ≤ hi then hi else m⟩
  | 0, k, s, m, hn, hk => by
    rw [if_neg (by omega), if_neg (by omega)]; rfl
  | n + 1, k, s, m, hn, hk => by
    obtain ⟨h1, h2⟩ := hs k hk (by omega)
    rw [uF, h1, h2, uF_eq hl hh hs n (k + 1) _ _ (by omega) (by omega)]
    congr 1
    · by_cases c1 : k + 1 ≤ lo
      · rw [if_pos c1, if_pos (by omega)]
      · rw [if_neg c1]
        by_cases c2 : k ≤ lo
        · rw [if_pos (by simpa using c2), if_pos c2]; omega
        · rw [if_neg (by simpa using c2), if_neg c2]
    · by_cases c1 : k + 1 ≤ hi
      · rw [if_pos c1, if_pos (by omega)]
      · rw [if_neg c1]
        by_cases c2 : k ≤ hi
        · rw [if_pos (by simpa using c2), if_pos c2]; omega
        · rw [if_neg (by simpa using c2), if_neg c2]
theorem un_eq (l : Lm) (h : Int) : unR l h = unM l h := by
  unfold unR unM
  by_cases h0 : khM l h = 0
  · rw [if_pos h0, if_pos h0]
    obtain ⟨hv, ⟨h1, h2⟩, h3⟩ := khM_0.1 h0
    obtain ⟨a, b, ⟨c, d⟩, e⟩ := un_spec hv h1 h3
    rw [uF_eq c d e _ _ _ _ rfl (Int.le_refl _)]
    generalize (bndM (lastK l h) (truM l)).1 = B at a b
    obtain ⟨lo, hi⟩ := B
    dsimp only at a b ⊢
    congr 1
    · by_cases c : h ≤ lo
      · rw [if_pos c]
      · rw [if_neg c]; omega
    · by_cases c : h ≤ hi
      · rw [if_pos c]
      · rw [if_neg c]; omega
  · rw [if_neg h0, if_neg h0]
end Go.Ab.T
end

section
namespace Go.Ab.T
set_option maxRecDepth 100000
theorem works_run : callV (run ft 400) 13 [] = some (.bool true) := by kernel_rfl
theorem works_ok : RV ft 13 [] (.bool true) := ⟨400, works_run⟩
end Go.Ab.T
end

section
namespace Go.Ab.T
set_option maxRecDepth 8000
set_option maxHeartbeats 4000000
def farM (l : Lm) : Bool := decide ((40 : Int) < (l.gs.length : Int)) || (okL l && decide (11 < l.fu.hi - l.fu.lo))
theorem Far_ok (l : Lm) : RV ft 12 [encL l] (.bool (farM l)) := by
  refine RV_of ft12 rfl ?_
  simp only [c12, r12]
  unfold farM
  cases h40 : decide ((40 : Int) < (l.gs.length : Int))
  case true => simp only [go_sem, Nat.reduceEqDiff, Nat.reduceAdd, Nat.reduceLT, Nat.reduceLeDiff, reduceIte, LCells, h40]
  have hl : l.gs.length < 1073741824 := by have := of_decide_eq_false h40; omega
  have hC := CheckR_ok l hl
  cases ho : okL l
  · rw [ho] at hC
    simp only [go_sem, Nat.reduceEqDiff, Nat.reduceAdd, Nat.reduceLT, Nat.reduceLeDiff, reduceIte, LCells, h40, WB22, WVH_eq hC, true_and, Bool.false_eq_true, if_false, show ((90 : Int) == 0) = false from rfl]
  have hv := okL_iff.1 ho
  rw [ho] at hC
  have u0 := hv.u0; have u1 := hv.u1; have u2 := hv.u2
  simp only [go_sem, Nat.reduceEqDiff, Nat.reduceAdd, Nat.reduceLT, Nat.reduceLeDiff, reduceIte, LCells, h40, WB22, WVH_eq hC, true_and, if_true, show ((0 : Int) == 0) = true from rfl, wrap_i64 (l.fu.hi - l.fu.lo) (by omega) (by omega)]
def rdM (l : Lm) : Bool := !farM l && okL l
theorem rdM_len {l : Lm} (h : farM l = false) : l.gs.length ≤ 40 := by
  unfold farM at h
  rw [Bool.or_eq_false_iff] at h
  have := of_decide_eq_false h.1; omega
theorem ready_ok (l : Lm) : RV ft 32 [encL l] (.bool (rdM l)) := by
  refine RV_of ft32 rfl ?_
  simp only [c32, r32]
  unfold rdM
  have hF := Far_ok l
  cases h : farM l
  · rw [h] at hF
    have hC := CheckR_ok l (by have := rdM_len h; omega)
    cases ho : okL l
    · rw [ho] at hC
      simp only [go_sem, Nat.reduceEqDiff, Nat.reduceAdd, Nat.reduceLT, Nat.reduceLeDiff, reduceIte, WB12, WVH_eq hF, WB22, WVH_eq hC, true_and, Bool.false_eq_true, if_false, show ((90 : Int) == 0) = false from rfl]
    · rw [ho] at hC
      simp only [go_sem, Nat.reduceEqDiff, Nat.reduceAdd, Nat.reduceLT, Nat.reduceLeDiff, reduceIte, WB12, WVH_eq hF, WB22, WVH_eq hC, true_and, if_true, show ((0 : Int) == 0) = true from rfl]
  · rw [h] at hF
    simp only [go_sem, Nat.reduceEqDiff, Nat.reduceAdd, Nat.reduceLT, Nat.reduceLeDiff, reduceIte, WB12, WVH_eq hF, true_and]
theorem rdM_iff {l : Lm} (h : rdM l = true) : farM l = false ∧ okL l = true := by
  unfold rdM at h
  rw [Bool.and_eq_true, Bool.not_eq_true'] at h
  exact h
def itM (l : Lm) (x : Ln) : Bool := inS l.fu x.fu && (inS l.fd x.fd && isT l x)
theorem itM_iff {l : Lm} {x : Ln} : itM l x = true ↔ x ∈ truM l := by
  unfold itM
  rw [mem_truM, Bool.and_eq_true, Bool.and_eq_true, and_assoc]
theorem IsTruth_ok {l : Lm} (hv : LV l) (x : Ln) : RV ft 34 [encL l, encN x] (.bool (itM l x)) := by
  refine RV_of ft34 rfl ?_
  simp only [c34, r34]
  unfold itM
  have q1 : ∀ n, inR n l.fu.lo l.fu.hi = inS l.fu n := fun _ => rfl
  have q2 : ∀ n, inR n l.fd.lo l.fd.hi = inS l.fd n := fun _ => rfl
  cases h1 : inS l.fu x.fu
  · simp only [go_sem, Nat.reduceEqDiff, Nat.reduceAdd, Nat.reduceLT, Nat.reduceLeDiff, reduceIte, LCells, NCells, NEta, WB55, WVH_eq (within_ok _ _ _), true_and, q1, h1]
  cases h2 : inS l.fd x.fd
  · simp only [go_sem, Nat.reduceEqDiff, Nat.reduceAdd, Nat.reduceLT, Nat.reduceLeDiff, reduceIte, LCells, NCells, NEta, WB55, WVH_eq (within_ok _ _ _), true_and, q1, q2, h1, h2]
  have hx : NV x := linM_NV hv (mem_linM.2 ⟨h1, h2⟩)
  simp only [go_sem, Nat.reduceEqDiff, Nat.reduceAdd, Nat.reduceLT, Nat.reduceLeDiff, reduceIte, LCells, NCells, NEta, WB55, WVH_eq (within_ok _ _ _), true_and, q1, q2, h1, h2, WB37, WVH_eq (Wrong_ok hv.gv hx), wrL_len]
  rfl
/-! ### A copy -/
def encLG (l : Lm) (G : AV) : AV := .agg [I64 l.fu.lo, I64 l.fu.hi, I64 l.fd.lo, I64 l.fd.hi, I64 l.no.lo, I64 l.no.hi, I64 l.ra, G, I64 l.wr]
theorem wL7 (l : Lm) (G : AV) : writeCells (encL l) 7 [G] = some (encLG l G) := rfl
theorem wLG7 (l : Lm) (F G : AV) : writeCells (encLG l F) 7 [G] = some (encLG l G) := rfl
theorem encLG_cells (l : Lm) (G : AV) : (encLG l G).cells = [I64 l.fu.lo, I64 l.fu.hi, I64 l.fd.lo, I64 l.fd.hi, I64 l.no.lo, I64 l.no.hi, I64 l.ra, G, I64 l.wr] := rfl
theorem encLG_eta (l : Lm) (G : AV) : AV.agg [I64 l.fu.lo, I64 l.fu.hi, I64 l.fd.lo, I64 l.fd.hi, I64 l.no.lo, I64 l.no.hi, I64 l.ra, G, I64 l.wr] = encLG l G := rfl
def zL : AV := .agg [I64 0, I64 0, I64 0, I64 0, I64 0, I64 0, I64 0, .sl [] .tight, I64 0]
theorem Copy_run (l : Lm) (hl : l.gs.length < 1000000) (K : AV → Mem → Prop)
    (h0 : l.gs = [] → K (encLG l (.sl [] .tight)) ⟨[.live [encL l] 9, .live [encLG l (.sl [] .tight)] 9, .live [encLG l (.sl [] .tight)] 9], []⟩)
    (h1 : l.gs ≠ [] → K (encLG l (.ref 3 0 l.gs.length)) ⟨[.live [encL l] 9, .live [encLG l (.ref 3 0 l.gs.length)] 9, .live [encLG l (.ref 3 0 l.gs.length)] 9, .live (l.gs.map encG) 3], []⟩) : WR ft (.f 14) [encL l] .nil K := by
  rw [WR_f ft14 rfl]
  simp only [c14, r14]
  have happ : ∀ m : Mem, append0 m (.sl [] .tight) (encGs l.gs) 3 24 = if l.gs = [] then some (.sl [] .tight, m) else some (.ref m.blks.length 0 l.gs.length, newBlk m (l.gs.map encG) 3) := by
    intro m
    simp only [append0, encGs, Mem.elems, List.length_map, Gs_hd]
    by_cases he : l.gs = []
    · rw [if_pos he, if_neg (by simp [he]), if_pos (by simp [he])]
    · rw [if_neg he, if_pos ⟨⟨by simp only [limit]; omega, trivial⟩, by simpa using he⟩]
  have wz : ∀ v : Lm, writeCells (.agg [I64 0, I64 0, I64 0, I64 0, I64 0, I64 0, I64 0, .sl [] .tight, I64 0]) 0 (encL v).cells = some (encL v) := fun _ => rfl
  by_cases he : l.gs = []
  · have hk := h0 he
    have happ0 : ∀ m : Mem, append0 m (.sl [] .tight) (encGs l.gs) 3 24 = some (.sl [] .tight, m) := fun m => by rw [happ, if_pos he]
    simp only [go_sem, Nat.reduceEqDiff, Nat.reduceAdd, Nat.reduceLT, Nat.reduceLeDiff, reduceIte, LCells, happ0, wL7, wLG7, encLG_cells, encLG_eta]
    exact hk
  · have hk := h1 he
    have happ1 : ∀ m : Mem, append0 m (.sl [] .tight) (encGs l.gs) 3 24 = some (.ref m.blks.length 0 l.gs.length, newBlk m (l.gs.map encG) 3) := fun m => by rw [happ, if_neg he]
    simp only [go_sem, Nat.reduceEqDiff, Nat.reduceAdd, Nat.reduceLT, Nat.reduceLeDiff, reduceIte, LCells, happ1, wL7, wLG7, encLG_cells, encLG_eta]
    exact hk
theorem RV_of_WR {f : FuncId} {as : List AV} {v : AV} (h : WR ft (.f f) as .nil fun v' m => snap m dep v' = v) : RV ft f as v := by
  obtain ⟨n, p, h1, h2⟩ := h
  exact ⟨n, by simp only [callV, h1, Option.map_some, h2]⟩
theorem map_snG (m : Mem) (q : Nat) (gs : List Gg) : (gs.map encG).map (snap m (q + 2)) = gs.map encG := by
  rw [List.map_map, show snap m (q + 2) ∘ encG = encG from funext fun t => snG m q t]
theorem Copy_ok (l : Lm) (hl : l.gs.length < 1000000) : RV ft 14 [encL l] (encL l) := by
  refine RV_of_WR (Copy_run l hl _ (fun he => ?_) (fun he => ?_))
  · show AV.agg [I64 l.fu.lo, I64 l.fu.hi, I64 l.fd.lo, I64 l.fd.hi, I64 l.no.lo, I64 l.no.hi, I64 l.ra, .sl [] .unk, I64 l.wr] = encL l
    rw [show (AV.sl [] .unk) = encGs l.gs by rw [he]; rfl]; rfl
  · have h1 : ∀ (bl : List Blk) (es : List AV) (q : Nat), snap ⟨bl ++ [.live es 3], []⟩ (q + 1) (.ref bl.length 0 es.length) = .sl (es.map (snap ⟨bl ++ [.live es 3], []⟩ q)) .unk := by
      intro bl es q
      simp only [go_sem, Nat.reduceEqDiff, Nat.reduceAdd, Nat.reduceLT, Nat.reduceLeDiff, reduceIte]
      rw [if_pos (by omega), List.take_length, snEs_some]
    have h2 := h1 [.live [encL l] 9, .live [encLG l (.ref 3 0 l.gs.length)] 9, .live [encLG l (.ref 3 0 l.gs.length)] 9] (l.gs.map encG) 10
    rw [List.length_map, map_snG _ 8] at h2
    show AV.agg [I64 l.fu.lo, I64 l.fu.hi, I64 l.fd.lo, I64 l.fd.hi, I64 l.no.lo, I64 l.no.hi, I64 l.ra, Ab.snap _ 11 (.ref 3 0 l.gs.length), I64 l.wr] = encL l
    have h3 : Ab.snap ⟨[.live [encL l] 9, .live [encLG l (.ref 3 0 l.gs.length)] 9, .live [encLG l (.ref 3 0 l.gs.length)] 9, .live (l.gs.map encG) 3], []⟩ 11 (.ref 3 0 l.gs.length) = encGs l.gs := h2
    rw [h3]; rfl
end Go.Ab.T
end

section
namespace Go.Ab.T
set_option maxRecDepth 8000
set_option maxHeartbeats 4000000
theorem eqG (g : Gg) : eqAV true [.i, .i, .i] (encG g) (encG g) = some true := by
  unfold encG; simp [eqAV, eqs, eq1]
theorem eqS (s : Sp) : eqAV true [.i, .i] (encS s) (encS s) = some true := by
  unfold encS; simp [eqAV, eqs, eq1]
theorem LampMany_run (l : Lm) : RV ft 3 [encL l] (.bool true) := by
  refine RV_of ft3 rfl ?_
  simp only [c3, r3]
  have hF := Far_ok l
  cases h : farM l
  case true =>
    rw [h] at hF
    simp only [go_sem, Nat.reduceEqDiff, Nat.reduceAdd, Nat.reduceLT, Nat.reduceLeDiff, reduceIte, WB12, WVH_eq hF, true_and, WB13, WVH_eq works_ok]
  have h40 := rdM_len h
  have hl : l.gs.length < 1073741824 := by omega
  rw [h] at hF
  have hC := Copy_ok l (by omega)
  have hM := Many_ok l hl
  have hMR := ManyR_ok l hl
  have hW := Fewest_ok l hl
  have hWR := FewestR_ok l hl
  have hB := Blame_ok l hl
  have hBR := BlameR_ok l hl
  have hk := Check_ok l hl
  have hkR := CheckR_ok l hl
  rw [fw_eq] at hWR
  have hbl : (bmM l).length < 1073741824 := by
    have : (bmM l).length ≤ l.gs.length := by
      unfold bmM
      split
      · split
        · simp
        · rw [blF_len]; exact List.length_filter_le _ _
      · simp
    omega
  have hS := sameInts_ok (bmM l) (bmM l) hbl
  rw [beq_self_eq_true] at hS
  generalize (if okL l = true then ((truM l).length : Int) else 0) = A at hM hMR
  generalize (if okL l = true then (0 : Int) else 90) = E at hM hMR hk hkR
  simp only [go_sem, Nat.reduceEqDiff, Nat.reduceAdd, Nat.reduceLT, Nat.reduceLeDiff, reduceIte, WB12, WVH_eq hF, true_and, WF14, WVH_eq hC, WB15, WVH_eq hM, WB16, WVH_eq hMR, WB17, WVH_eq hW, WB18, WVH_eq hWR, WB19, WVH_eq hB, WB20, WVH_eq hBR, WB21, WVH_eq hk, WB22, WVH_eq hkR, bne_self_eq_false, WB23, WVH_eq hS, LCells]
  refine WL_inv (α := Nat × List Gg) (fun q e mm => e 1 = .ptr 0 0 0 ∧ e 3 = .ptr 1 0 0 ∧ e 16 = I64 q.1 ∧ l.gs.drop q.1 = q.2 ∧ ∃ bl, mm = ⟨.live [encL l] 9 :: .live [encL l] 9 :: bl, []⟩) (fun q => q.2.length) (0, l.gs) ?_ ?_
  · simp only [go_sem, Nat.reduceEqDiff, Nat.reduceAdd, Nat.reduceLT, Nat.reduceLeDiff, reduceIte]
    exact ⟨trivial, trivial, rfl, trivial, _, rfl⟩
  rintro ⟨k, r⟩ e m ⟨g1, g3, g16, hd, bl, rfl⟩
  dsimp only at g16 hd
  cases r with
  | nil =>
    have h3 := drop_nil hd
    simp only [go_sem, Nat.reduceEqDiff, Nat.reduceAdd, Nat.reduceLT, Nat.reduceLeDiff, reduceIte, g1, g3, g16, LCells, dec_ge h3, WB13, WVH_eq works_ok, true_and]
  | cons y r =>
    obtain ⟨hk, hd2, hlt⟩ := drop_cons hd
    simp only [go_sem, Nat.reduceEqDiff, Nat.reduceAdd, Nat.reduceLT, Nat.reduceLeDiff, reduceIte, g1, g3, g16, LCells, dec_lt hlt, Gs_idx hk, GCells, GEta, eqG, Bool.not_true, wrap_n1 k (by omega)]
    refine Nx_of (k + 1, r) (by simp) ?_
    simp only [go_sem, Nat.reduceEqDiff, Nat.reduceAdd, Nat.reduceLT, Nat.reduceLeDiff, reduceIte, g1, g3]
    exact ⟨trivial, trivial, trivial, hd2, _, rfl⟩
theorem LampHours_run (l : Lm) (h : Int) : RV ft 4 [encL l, I64 h] (.bool true) := by
  refine RV_of ft4 rfl ?_
  simp only [c4, r4]
  have hF := Far_ok l
  cases hf : farM l
  case true =>
    rw [hf] at hF
    simp only [go_sem, Nat.reduceEqDiff, Nat.reduceAdd, Nat.reduceLT, Nat.reduceLeDiff, reduceIte, WB12, WVH_eq hF, true_and, WB13, WVH_eq works_ok]
  have h40 := rdM_len hf
  have hl : l.gs.length < 1073741824 := by omega
  rw [hf] at hF
  have hC := Copy_ok l (by omega)
  have hA := At_ok l h hl
  have hAR := AtR_ok l h hl
  have hK := Keeps_ok l h hl
  have hKR := KeepsR_ok l h hl
  have hU := Until_ok l h hl
  have hUR := UntilR_ok l h hl
  rw [un_eq] at hUR
  simp only [go_sem, Nat.reduceEqDiff, Nat.reduceAdd, Nat.reduceLT, Nat.reduceLeDiff, reduceIte, WB12, WVH_eq hF, true_and, WF14, WVH_eq hC, WB24, WVH_eq hA, WB25, WVH_eq hAR, WB26, WVH_eq hK, WB27, WVH_eq hKR, WB28, WVH_eq hU, WB29, WVH_eq hUR, beq_self_eq_true, LCells, SCells, SEta, eqS, Bool.false_eq_true, if_false, WB13, WVH_eq works_ok]
end Go.Ab.T
end
