/-
  A part of the proofs over this seat.
  (The texts KhK1 KhK2 KhK3, one behind the other.)
-/
import Derived.Test.YtifnocdjhaioaaaP1
set_option linter.unusedSimpArgs false
set_option linter.unusedVariables false
set_option linter.unusedSectionVars false
section
namespace Go.Ab.T
set_option maxRecDepth 8000
set_option maxHeartbeats 4000000
theorem wrap_n1 (k : Nat) (h : k < 4611686018427387904) : IntKind.i64.wrap ((k : Int) + 1) = ((k + 1 : Nat) : Int) := by rw [wrap_i64 _ (by omega) (by omega)]; omega
theorem wrap_n1' (k : Nat) (h : k + 1 < 9223372036854775808) : IntKind.i64.wrap ((k : Int) + 1) = ((k + 1 : Nat) : Int) := by rw [wrap_i64 _ (by omega) (by omega)]; omega
theorem wrap_i1 (k : Int) (h0 : -4611686018427387904 < k) (h : k < 4611686018427387904) : IntKind.i64.wrap (k + 1) = k + 1 := wrap_i64 _ (by omega) (by omega)
def encIs (l : List Int) : AV := .sl (l.map I64) .unk
theorem IsCells (l : List Int) : (encIs l).cells = [encIs l] := rfl
theorem IsSolid (l : List Int) : (encIs l).solid = true := rfl
theorem IsAgg (l : List Int) : (encIs l).isAgg = false := rfl
theorem IsNil : AV.sl [] .unk = encIs [] := rfl
theorem Is_len (m : Mem) (l : List Int) : lenAt m (encIs l) = some (I64 l.length) := by unfold encIs; rw [lenAt_sl, List.length_map]
theorem Is_get (l : List Int) (k : Nat) : (l.map I64)[k]? = l[k]?.map I64 := List.getElem?_map
theorem Is_idx {l : List Int} {k : Nat} {x : Int} (h : l[k]? = some x) (m : Mem) : idxAt m (encIs l) (I64 (k : Int)) 1 = some (.pv (I64 x) 0) := by
  unfold encIs
  rw [idxAt_sl, if_pos (by omega), Int.toNat_natCast, Is_get, h]
  rfl
theorem Is_idxI {l : List Int} {n : Int} {x : Int} (h0 : 0 ≤ n) (h : l[n.toNat]? = some x) (m : Mem) : idxAt m (encIs l) (I64 n) 1 = some (.pv (I64 x) 0) := by
  have := Is_idx h m
  rwa [Int.toNat_of_nonneg h0] at this
theorem snIs (m : Mem) (q : Nat) (l : List Int) : snap m (q + 2) (encIs l) = encIs l := by
  show AV.sl ((l.map I64).map (snap m (q + 1))) .unk = _
  rw [List.map_map, show snap m (q + 1) ∘ I64 = I64 from funext (fun _ => rfl)]; rfl
theorem hotIs (q : Nat) (l : List Int) : hot (q + 2) (encIs l) = false := by
  show (l.map I64).any (hot (q + 1)) = false
  rw [List.any_map, List.any_eq_false]; intro x _; simp only [Function.comp]; rw [show hot (q + 1) (I64 x) = false from rfl]; decide
theorem Is_hd (l : List Int) : hdSz (l.map I64) 1 = true := hdSz_map' I64 1 l fun _ => rfl
attribute [go_sem] snIs hotIs IsCells IsSolid IsAgg Is_len
def inR (n lo hi : Int) : Bool := decide (lo ≤ n) && decide (n ≤ hi)
def szR (n : Int) : Bool := inR n 1 12
theorem within_ok (n lo hi : Int) : RV ft 43 [I64 n, I64 lo, I64 hi] (.bool (inR n lo hi)) := by
  refine RV_of ft43 rfl ?_
  simp only [c43, r43]
  unfold inR
  cases h : decide (lo ≤ n) <;> simp only [go_sem, Nat.reduceEqDiff, Nat.reduceAdd, Nat.reduceLT, Nat.reduceLeDiff, reduceIte, h, Bool.true_and, Bool.false_and]
theorem isWithin_ok (n lo hi : Int) : RV ft 55 [I64 n, I64 lo, I64 hi] (.bool (inR n lo hi)) := by
  refine RV_of ft55 rfl ?_
  simp only [c55, r55]
  unfold inR
  cases h : decide (lo ≤ n) <;> simp only [go_sem, Nat.reduceEqDiff, Nat.reduceAdd, Nat.reduceLT, Nat.reduceLeDiff, reduceIte, h, Bool.true_and, Bool.false_and]
theorem isSize_ok (n : Int) : RV ft 39 [I64 n] (.bool (szR n)) := by
  refine RV_of ft39 rfl ?_
  simp only [c39, r39]
  simp only [go_sem, Nat.reduceEqDiff, Nat.reduceAdd, Nat.reduceLT, Nat.reduceLeDiff, reduceIte, WB55, WVH_eq (isWithin_ok _ _ _), true_and]
  rfl
/-- The first place where something is so, -1 if there is none. -/
def idxP {α : Type} (p : α → Bool) : List α → Nat → Int
  | [], _ => -1
  | x :: r, k => if p x = true then (k : Int) else idxP p r (k + 1)
theorem idxP_any {α : Type} (p : α → Bool) : ∀ (l : List α) (k : Nat), decide (0 ≤ idxP p l k) = l.any p
  | [], k => rfl
  | x :: r, k => by
    unfold idxP
    cases h : p x
    · simp only [Bool.false_eq_true, if_false, List.any_cons, h, Bool.false_or]
      exact idxP_any p r (k + 1)
    · simp only [if_true, List.any_cons, h, Bool.true_or]
      exact decide_eq_true (by omega)
theorem not_any_not {α : Type} (p : α → Bool) (l : List α) : (!(l.any fun x => !p x)) = l.all p := by
  rw [List.all_eq_not_any_not]
theorem IndexFuncI_ok (l : List Int) (f : AV) (p : Int → Bool) (hl : l.length < 1073741824)
    (hf : ∀ x ∈ l, ∀ (e : Nat → AV) (m : Mem) (K : AV → St → Prop), K (.bool (p x)) ⟨e, m⟩ → @WAH ft f [I64 x] ⟨e, m⟩ ⟨K⟩) : RV ft 92 [encIs l, f] (I64 (idxP p l 0)) := by
  refine RV_of ft92 rfl ?_
  simp only [c92, r92]
  simp only [go_sem, Nat.reduceEqDiff, Nat.reduceAdd, Nat.reduceLT, Nat.reduceLeDiff, reduceIte]
  refine WL_inv (α := Nat × List Int) (fun q e mm => e 0 = encIs l ∧ e 1 = f ∧ e 7 = I64 l.length ∧ e 8 = I64 q.1 ∧ l.drop q.1 = q.2 ∧ idxP p q.2 q.1 = idxP p l 0) (fun q => q.2.length) (0, l) ?_ ?_
  · simp only [go_sem, Nat.reduceEqDiff, Nat.reduceAdd, Nat.reduceLT, Nat.reduceLeDiff, reduceIte]
    ((repeat' apply And.intro) <;> first | trivial | rfl | omega | assumption)
  rintro ⟨k, r⟩ e m ⟨h0, h1, h7, h8, hd, hq⟩
  dsimp only at h8 hd hq
  cases r with
  | nil =>
    have h3 := drop_nil hd
    simp only [go_sem, Nat.reduceEqDiff, Nat.reduceAdd, Nat.reduceLT, Nat.reduceLeDiff, reduceIte, h0, h1, h7, h8, dec_ge h3]
    rw [← hq]; rfl
  | cons x r =>
    obtain ⟨hk, hd2, hlt⟩ := drop_cons hd
    simp only [go_sem, Nat.reduceEqDiff, Nat.reduceAdd, Nat.reduceLT, Nat.reduceLeDiff, reduceIte, h0, h1, h7, h8, dec_lt hlt, Is_idx hk]
    refine hf x (List.mem_of_getElem? hk) _ _ _ ?_
    cases hx : p x
    · simp only [go_sem, Nat.reduceEqDiff, Nat.reduceAdd, Nat.reduceLT, Nat.reduceLeDiff, reduceIte, h0, h1, h7, h8, wrap_n1 k (by omega)]
      refine Nx_of (k + 1, r) (by simp) ?_
      simp only [go_sem, Nat.reduceEqDiff, Nat.reduceAdd, Nat.reduceLT, Nat.reduceLeDiff, reduceIte, h0, h1, h7]
      exact ⟨trivial, trivial, trivial, trivial, hd2, by rw [← hq]; simp [idxP, hx]⟩
    · simp only [go_sem, Nat.reduceEqDiff, Nat.reduceAdd, Nat.reduceLT, Nat.reduceLeDiff, reduceIte, h0, h1, h7, h8]
      rw [← hq]; simp [idxP, hx]
theorem ContainsFuncI_ok (l : List Int) (f : AV) (p : Int → Bool) (hl : l.length < 1073741824) (hs : ∀ (m : Mem) (q : Nat), snap m (q + 10) f = f) (hh : ∀ q, hot (q + 10) f = false)
    (hf : ∀ x ∈ l, ∀ (e : Nat → AV) (m : Mem) (K : AV → St → Prop), K (.bool (p x)) ⟨e, m⟩ → @WAH ft f [I64 x] ⟨e, m⟩ ⟨K⟩) : RV ft 60 [encIs l, f] (.bool (l.any p)) := by
  refine RV_of ft60 rfl ?_
  simp only [c60, r60]
  simp only [go_sem, Nat.reduceEqDiff, Nat.reduceAdd, Nat.reduceLT, Nat.reduceLeDiff, reduceIte, WB92, hs, hh, WVH_eq (IndexFuncI_ok l f p hl hf), true_and, idxP_any]
theorem allI_ok (l : List Int) (g : AV) (p : Int → Bool) (hl : l.length < 1073741824) (hc : g.cells = [g]) (hso : g.solid = true) (hs : ∀ (m : Mem) (q : Nat), snap m (q + 8) g = g) (hh : ∀ q, hot (q + 8) g = false)
    (hf : ∀ x ∈ l, ∀ (e : Nat → AV) (m : Mem) (K : AV → St → Prop), K (.bool (p x)) ⟨e, m⟩ → @WAH ft g [I64 x] ⟨e, m⟩ ⟨K⟩) : RV ft 45 [encIs l, g] (.bool (l.all p)) := by
  refine RV_of ft45 rfl ?_
  simp only [c45, r45]
  have hk : ∀ x ∈ l, RV ft 61 [I64 x, .pv g 0] (.bool (!p x)) := fun x hx => by
    refine RV_of ft61 rfl ?_
    simp only [c61, r61]
    simp only [go_sem, Nat.reduceEqDiff, Nat.reduceAdd, Nat.reduceLT, Nat.reduceLeDiff, reduceIte, hc]
    refine hf x hx _ _ _ ?_
    simp only [go_sem, Nat.reduceEqDiff, Nat.reduceAdd, Nat.reduceLT, Nat.reduceLeDiff, reduceIte]
  have hC := ContainsFuncI_ok l (.fn 61 [] [.pv g 0]) (fun x => !p x) hl (fun m q => by
    show AV.fn 61 [] [.pv (snap m (q + 8) g) 0] = _
    rw [hs]) (fun q => by
    show (false || (hot (q + 8) g || false)) = false
    rw [hh]; rfl) (fun x hx e m K hK => by
    rw [WAH_fn]
    simp only [List.nil_append, List.cons_append]
    simp only [go_sem, Nat.reduceEqDiff, Nat.reduceAdd, Nat.reduceLT, Nat.reduceLeDiff, reduceIte, WB61, hs, hh, WVH_eq (hk x hx), true_and]
    exact hK)
  simp only [go_sem, Nat.reduceEqDiff, Nat.reduceAdd, Nat.reduceLT, Nat.reduceLeDiff, reduceIte, hc, hso, hs, hh, WB60, WVH_eq hC, true_and, not_any_not]
theorem allSizes_ok (l : List Int) (hl : l.length < 1073741824) : RV ft 45 [encIs l, .fn 39 [] []] (.bool (l.all szR)) :=
  allI_ok l _ szR hl rfl rfl (fun _ _ => rfl) (fun _ => rfl) fun x _ e m K hK => by
    rw [WAH_fn]
    simp only [List.nil_append, List.append_nil]
    simp only [go_sem, Nat.reduceEqDiff, Nat.reduceAdd, Nat.reduceLT, Nat.reduceLeDiff, reduceIte, WB39, WVH_eq (isSize_ok x), true_and]
    exact hK
/-! ### Halls -/
structure Hl where
  rows : List Int
  hold : Int
def encH (h : Hl) : AV := .agg [encIs h.rows, I64 h.hold]
theorem HCells (h : Hl) : (encH h).cells = [encIs h.rows, I64 h.hold] := rfl
theorem HEta (h : Hl) : AV.agg [encIs h.rows, I64 h.hold] = encH h := rfl
theorem snH (m : Mem) (q : Nat) (h : Hl) : snap m (q + 3) (encH h) = encH h := by
  show AV.agg [snap m (q + 2) (encIs h.rows), I64 h.hold] = _
  rw [snIs]; rfl
theorem hotH (q : Nat) (h : Hl) : hot (q + 3) (encH h) = false := by
  show (hot (q + 2) (encIs h.rows) || (false || false)) = false
  rw [hotIs]; rfl
attribute [go_sem] HCells HEta snH hotH
def okH (h : Hl) : Bool := inR h.rows.length 1 6 && (h.rows.all szR && inR h.hold 1 600)
theorem inR_iff {n a b : Int} (h : inR n a b = true) : a ≤ n ∧ n ≤ b := by
  unfold inR at h
  rw [Bool.and_eq_true, decide_eq_true_eq, decide_eq_true_eq] at h; exact h
theorem validHall_ok (h : Hl) : RV ft 44 [encH h] (.bool (okH h)) := by
  refine RV_of ft44 rfl ?_
  simp only [c44, r44]
  unfold okH
  cases d0 : inR h.rows.length 1 6
  case false => simp only [go_sem, Nat.reduceEqDiff, Nat.reduceAdd, Nat.reduceLT, Nat.reduceLeDiff, reduceIte, WB55, WVH_eq (isWithin_ok _ _ _), true_and, d0, Bool.false_and]
  have hl : h.rows.length < 1073741824 := by have := inR_iff d0; omega
  cases d1 : h.rows.all szR
  case false => simp only [go_sem, Nat.reduceEqDiff, Nat.reduceAdd, Nat.reduceLT, Nat.reduceLeDiff, reduceIte, WB55, WVH_eq (isWithin_ok _ _ _), WB45, WVH_eq (allSizes_ok _ hl), true_and, d0, d1, Bool.false_and, Bool.true_and]
  simp only [go_sem, Nat.reduceEqDiff, Nat.reduceAdd, Nat.reduceLT, Nat.reduceLeDiff, reduceIte, WB55, WVH_eq (isWithin_ok _ _ _), WB45, WVH_eq (allSizes_ok _ hl), true_and, d0, d1, Bool.true_and]
theorem IsHall_ok (h : Hl) (hl : h.rows.length < 9223372036854775808) : RV ft 25 [encH h] (.bool (okH h)) := by
  refine RV_of ft25 rfl ?_
  simp only [c25, r25]
  simp only [go_sem, Nat.reduceEqDiff, Nat.reduceAdd, Nat.reduceLT, Nat.reduceLeDiff, reduceIte]
  refine WL_inv (α := Nat × List Int) (fun q e mm => e 1 = .ptr 0 0 0 ∧ e 3 = I64 q.1 ∧ h.rows.drop q.1 = q.2 ∧ q.2.all szR = h.rows.all szR ∧ q.1 ≤ h.rows.length ∧ mm = ⟨[.live [encH h] 2], []⟩) (fun q => q.2.length) (0, h.rows) ?_ ?_
  · simp only [go_sem, Nat.reduceEqDiff, Nat.reduceAdd, Nat.reduceLT, Nat.reduceLeDiff, reduceIte]
    ((repeat' apply And.intro) <;> first | trivial | rfl | omega | assumption)
  rintro ⟨k, r⟩ e m ⟨h1, h3, hd, hq, hk0, rfl⟩
  dsimp only at h3 hd hq hk0
  cases r with
  | nil =>
    have h4 := drop_nil hd
    have hq' : h.rows.all szR = true := by rw [← hq]; rfl
    unfold okH
    cases d0 : inR h.rows.length 1 6 <;> simp only [go_sem, Nat.reduceEqDiff, Nat.reduceAdd, Nat.reduceLT, Nat.reduceLeDiff, reduceIte, h1, h3, dec_ge h4, WB43, WVH_eq (within_ok _ _ _), true_and, d0, hq', Bool.true_and, Bool.false_and]
  | cons x r =>
    obtain ⟨hk, hd2, hlt⟩ := drop_cons hd
    cases hx : szR x
    · have hx' : inR x 1 12 = false := hx
      have hq' : h.rows.all szR = false := by rw [← hq]; simp [hx]
      simp only [go_sem, Nat.reduceEqDiff, Nat.reduceAdd, Nat.reduceLT, Nat.reduceLeDiff, reduceIte, h1, h3, dec_lt hlt, Is_idx hk, WB43, WVH_eq (within_ok _ _ _), true_and, hx']
      unfold okH
      rw [hq']; simp
    · have hx' : inR x 1 12 = true := hx
      simp only [go_sem, Nat.reduceEqDiff, Nat.reduceAdd, Nat.reduceLT, Nat.reduceLeDiff, reduceIte, h1, h3, dec_lt hlt, Is_idx hk, WB43, WVH_eq (within_ok _ _ _), true_and, hx', wrap_n1' k (by omega)]
      refine Nx_of (k + 1, r) (by simp) ?_
      simp only [go_sem, Nat.reduceEqDiff, Nat.reduceAdd, Nat.reduceLT, Nat.reduceLeDiff, reduceIte, h1]
      exact ⟨trivial, trivial, hd2, by rw [← hq]; simp [hx], by omega, trivial⟩
def okZ (l : List Int) : Bool := l.all szR && decide (l.length ≤ 12)
theorem AreSizes_ok (l : List Int) (hl : l.length < 9223372036854775808) : RV ft 26 [encIs l] (.bool (okZ l)) := by
  refine RV_of ft26 rfl ?_
  simp only [c26, r26]
  simp only [go_sem, Nat.reduceEqDiff, Nat.reduceAdd, Nat.reduceLT, Nat.reduceLeDiff, reduceIte]
  refine WL_inv (α := Nat × List Int) (fun q e mm => e 0 = encIs l ∧ e 3 = I64 q.1 ∧ l.drop q.1 = q.2 ∧ q.2.all szR = l.all szR ∧ q.1 ≤ l.length) (fun q => q.2.length) (0, l) ?_ ?_
  · simp only [go_sem, Nat.reduceEqDiff, Nat.reduceAdd, Nat.reduceLT, Nat.reduceLeDiff, reduceIte]
    ((repeat' apply And.intro) <;> first | trivial | rfl | omega | assumption)
  rintro ⟨k, r⟩ e m ⟨h1, h3, hd, hq, hk0⟩
  dsimp only at h3 hd hq hk0
  cases r with
  | nil =>
    have h4 := drop_nil hd
    have hq' : l.all szR = true := by rw [← hq]; rfl
    have h12 : decide ((l.length : Int) ≤ 12) = decide (l.length ≤ 12) := by rw [decide_eq_decide]; omega
    simp only [go_sem, Nat.reduceEqDiff, Nat.reduceAdd, Nat.reduceLT, Nat.reduceLeDiff, reduceIte, h1, h3, dec_ge h4]
    unfold okZ
    rw [hq', h12]; rfl
  | cons x r =>
    obtain ⟨hk, hd2, hlt⟩ := drop_cons hd
    cases hx : szR x
    · have hx' : inR x 1 12 = false := hx
      have hq' : l.all szR = false := by rw [← hq]; simp [hx]
      simp only [go_sem, Nat.reduceEqDiff, Nat.reduceAdd, Nat.reduceLT, Nat.reduceLeDiff, reduceIte, h1, h3, dec_lt hlt, Is_idx hk, WB43, WVH_eq (within_ok _ _ _), true_and, hx']
      unfold okZ
      rw [hq']; simp
    · have hx' : inR x 1 12 = true := hx
      simp only [go_sem, Nat.reduceEqDiff, Nat.reduceAdd, Nat.reduceLT, Nat.reduceLeDiff, reduceIte, h1, h3, dec_lt hlt, Is_idx hk, WB43, WVH_eq (within_ok _ _ _), true_and, hx', wrap_n1' k (by omega)]
      refine Nx_of (k + 1, r) (by simp) ?_
      simp only [go_sem, Nat.reduceEqDiff, Nat.reduceAdd, Nat.reduceLT, Nat.reduceLeDiff, reduceIte, h1]
      exact ⟨trivial, trivial, hd2, by rw [← hq]; simp [hx], by omega⟩
theorem in_ok (l : List Int) (x : Int) (hl : l.length < 1073741824) : RV ft 65 [encIs l, I64 x] (.bool (l.any (· == x))) := by
  refine RV_of ft65 rfl ?_
  simp only [c65, r65]
  simp only [go_sem, Nat.reduceEqDiff, Nat.reduceAdd, Nat.reduceLT, Nat.reduceLeDiff, reduceIte]
  refine WL_inv (α := Nat × List Int) (fun q e mm => e 0 = encIs l ∧ e 1 = I64 x ∧ e 5 = I64 q.1 ∧ l.drop q.1 = q.2 ∧ q.2.any (· == x) = l.any (· == x) ∧ q.1 ≤ l.length) (fun q => q.2.length) (0, l) ?_ ?_
  · simp only [go_sem, Nat.reduceEqDiff, Nat.reduceAdd, Nat.reduceLT, Nat.reduceLeDiff, reduceIte]
    ((repeat' apply And.intro) <;> first | trivial | rfl | omega | assumption)
  rintro ⟨k, r⟩ e m ⟨h0, h1, h5, hd, hq, hk0⟩
  dsimp only at h5 hd hq hk0
  cases r with
  | nil =>
    have h4 := drop_nil hd
    simp only [go_sem, Nat.reduceEqDiff, Nat.reduceAdd, Nat.reduceLT, Nat.reduceLeDiff, reduceIte, h0, h1, h5, dec_ge h4]
    rw [← hq]; rfl
  | cons y r =>
    obtain ⟨hk, hd2, hlt⟩ := drop_cons hd
    cases hx : (y == x)
    · simp only [go_sem, Nat.reduceEqDiff, Nat.reduceAdd, Nat.reduceLT, Nat.reduceLeDiff, reduceIte, h0, h1, h5, dec_lt hlt, Is_idx hk, hx, wrap_n1 k (by omega)]
      refine Nx_of (k + 1, r) (by simp) ?_
      simp only [go_sem, Nat.reduceEqDiff, Nat.reduceAdd, Nat.reduceLT, Nat.reduceLeDiff, reduceIte, h0, h1]
      exact ⟨trivial, trivial, trivial, hd2, by rw [← hq]; simp [hx], by omega⟩
    · simp only [go_sem, Nat.reduceEqDiff, Nat.reduceAdd, Nat.reduceLT, Nat.reduceLeDiff, reduceIte, h0, h1, h5, dec_lt hlt, Is_idx hk, hx]
      rw [← hq]; simp [hx]
end Go.Ab.T
end

section
namespace Go.Ab.T
set_option maxRecDepth 8000
set_option maxHeartbeats 4000000
def encF (f : Nat × Int) : AV := .agg [I64 (f.1 : Int), I64 f.2]
theorem FCells (f : Nat × Int) : (encF f).cells = [I64 (f.1 : Int), I64 f.2] := rfl
theorem FEta (f : Nat × Int) : AV.agg [I64 (f.1 : Int), I64 f.2] = encF f := rfl
theorem FEta' (a : Nat) (b : Int) : AV.agg [I64 (a : Int), I64 b] = encF (a, b) := rfl
theorem snF (m : Mem) (q : Nat) (f : Nat × Int) : snap m (q + 2) (encF f) = encF f := rfl
theorem hotF (q : Nat) (f : Nat × Int) : hot (q + 2) (encF f) = false := rfl
def encP (p : Pk) : AV := .agg [I64 (p.1.1 : Int), I64 p.1.2, I64 (p.2 : Int)]
theorem PCells (p : Pk) : (encP p).cells = [I64 (p.1.1 : Int), I64 p.1.2, I64 (p.2 : Int)] := rfl
theorem snP (m : Mem) (q : Nat) (p : Pk) : snap m (q + 2) (encP p) = encP p := rfl
theorem hotP (q : Nat) (p : Pk) : hot (q + 2) (encP p) = false := rfl
attribute [go_sem] FCells snF hotF PCells snP hotP
theorem isNaN_ok (n : Int) : RV ft 98 [I64 n] (.bool false) := by
  refine RV_of ft98 rfl ?_
  simp only [c98, r98]
  simp only [go_sem, Nat.reduceEqDiff, Nat.reduceAdd, Nat.reduceLT, Nat.reduceLeDiff, reduceIte, show (n != n) = false by simp]
def cmpZ (a b : Int) : Int := if a < b then -1 else if b < a then 1 else 0
theorem Compare_ok (a b : Int) : RV ft 73 [I64 a, I64 b] (I64 (cmpZ a b)) := by
  refine RV_of ft73 rfl ?_
  simp only [c73, r73]
  unfold cmpZ
  by_cases h1 : a < b
  · simp only [go_sem, Nat.reduceEqDiff, Nat.reduceAdd, Nat.reduceLT, Nat.reduceLeDiff, reduceIte, WB98, WVH_eq (isNaN_ok _), true_and, show decide (a < b) = true from decide_eq_true h1]
    rw [if_pos h1]
  · by_cases h2 : b < a
    · simp only [go_sem, Nat.reduceEqDiff, Nat.reduceAdd, Nat.reduceLT, Nat.reduceLeDiff, reduceIte, WB98, WVH_eq (isNaN_ok _), true_and, show decide (a < b) = false from decide_eq_false h1, show decide (b < a) = true from decide_eq_true h2]
      rw [if_neg h1, if_pos h2]
    · simp only [go_sem, Nat.reduceEqDiff, Nat.reduceAdd, Nat.reduceLT, Nat.reduceLeDiff, reduceIte, WB98, WVH_eq (isNaN_ok _), true_and, show decide (a < b) = false from decide_eq_false h1, show decide (b < a) = false from decide_eq_false h2]
      rw [if_neg h1, if_neg h2]
def orZ (l : List Int) : Int := (l.find? (· != 0)).getD 0
theorem Or_ok (l : List Int) (hl : l.length < 1073741824) : RV ft 72 [encIs l] (I64 (orZ l)) := by
  refine RV_of ft72 rfl ?_
  simp only [c72, r72]
  simp only [go_sem, Nat.reduceEqDiff, Nat.reduceAdd, Nat.reduceLT, Nat.reduceLeDiff, reduceIte]
  refine WL_inv (α := Nat × List Int) (fun q e mm => e 3 = I64 0 ∧ e 6 = encIs l ∧ e 7 = I64 l.length ∧ e 8 = I64 q.1 ∧ l.drop q.1 = q.2 ∧ orZ q.2 = orZ l ∧ q.1 ≤ l.length) (fun q => q.2.length) (0, l) ?_ ?_
  · simp only [go_sem, Nat.reduceEqDiff, Nat.reduceAdd, Nat.reduceLT, Nat.reduceLeDiff, reduceIte]
    ((repeat' apply And.intro) <;> first | trivial | rfl | omega | assumption)
  rintro ⟨k, r⟩ e m ⟨h3, h6, h7, h8, hd, hq, hk0⟩
  dsimp only at h8 hd hq hk0
  cases r with
  | nil =>
    have h4 := drop_nil hd
    simp only [go_sem, Nat.reduceEqDiff, Nat.reduceAdd, Nat.reduceLT, Nat.reduceLeDiff, reduceIte, h3, h6, h7, h8, dec_ge h4]
    rw [← hq]; rfl
  | cons y r =>
    obtain ⟨hk, hd2, hlt⟩ := drop_cons hd
    cases hx : (y != 0)
    · simp only [go_sem, Nat.reduceEqDiff, Nat.reduceAdd, Nat.reduceLT, Nat.reduceLeDiff, reduceIte, h3, h6, h7, h8, dec_lt hlt, Is_idx hk, hx, wrap_n1 k (by omega)]
      refine Nx_of (k + 1, r) (by simp) ?_
      simp only [go_sem, Nat.reduceEqDiff, Nat.reduceAdd, Nat.reduceLT, Nat.reduceLeDiff, reduceIte, h3, h6, h7]
      exact ⟨trivial, trivial, trivial, trivial, hd2, by rw [← hq]; unfold orZ; rw [List.find?_cons, hx], by omega⟩
    · simp only [go_sem, Nat.reduceEqDiff, Nat.reduceAdd, Nat.reduceLT, Nat.reduceLeDiff, reduceIte, h3, h6, h7, h8, dec_lt hlt, Is_idx hk, hx]
      rw [← hq]; unfold orZ; rw [List.find?_cons, hx]; rfl
theorem or_lt0 (a b c d : Int) : decide (orZ [cmpZ a b, cmpZ c d] < 0) = decide (a < b ∨ (a = b ∧ c < d)) := by
  unfold orZ cmpZ
  rw [decide_eq_decide]
  by_cases h1 : a < b
  · simp [h1]
  · by_cases h2 : b < a
    · simp [h1, h2]; omega
    · by_cases h3 : c < d
      · simp [h1, h2, h3]; omega
      · by_cases h4 : d < c <;> simp [h1, h2, h3, h4]
theorem sn2 (m : Mem) (q : Nat) (a b : Int) (t : Tk) : snap m (q + 2) (.sl [I64 a, I64 b] t) = encIs [a, b] := rfl
theorem hot2 (q : Nat) (a b : Int) (t : Tk) : hot (q + 2) (.sl [I64 a, I64 b] t) = false := rfl
theorem less_ok (a b : Nat × Int) : RV ft 63 [encF a, encF b] (.bool (ltF a b)) := by
  refine RV_of ft63 rfl ?_
  simp only [c63, r63]
  have hO := Or_ok [cmpZ (a.1 : Int) (b.1 : Int), cmpZ a.2 b.2] (by simp)
  simp only [go_sem, Nat.reduceEqDiff, Nat.reduceAdd, Nat.reduceLT, Nat.reduceLeDiff, reduceIte, WB73, WVH_eq (Compare_ok _ _), WB72, sn2, hot2, WVH_eq hO, true_and, or_lt0]
  unfold ltF
  congr 1; rw [decide_eq_decide]; omega
theorem nxF_step {R : Nat} {z x : Int} {r : List Int} {k : Nat} (h : ¬z ≤ x) : nxF R z (x :: r) k = nxF R z r (k + 1) := by rw [nxF, if_neg h]
theorem add_ok (rows : List Int) (f : Nat × Int) (z : Int) (hl : rows.length < 1000000) (hf : f.1 ≤ rows.length) (h0 : 0 ≤ f.2) (h1 : f.2 ≤ 1000000) (hz0 : 0 ≤ z) (hz1 : z ≤ 1000000) : RV ft 62 [encIs rows, encF f, I64 z] (encF (addF rows f z)) := by
  refine RV_of ft62 rfl ?_
  simp only [c62, r62]
  have hw : IntKind.i64.wrap (f.2 + z) = f.2 + z := wrap_i64 _ (by omega) (by omega)
  have hw1 := wrap_n1 f.1 (by omega)
  have htail : ∀ (e : Nat → AV) (m : Mem) (K : AV → St → Prop), True := fun _ _ _ => trivial
  by_cases hx : f.1 < rows.length ∧ f.2 + z ≤ rows.getD f.1 0
  · have hi : rows[f.1]? = some rows[f.1] := List.getElem?_eq_getElem hx.1
    have hg := hx.2
    rw [getD_lt hx.1] at hg
    simp only [go_sem, Nat.reduceEqDiff, Nat.reduceAdd, Nat.reduceLT, Nat.reduceLeDiff, reduceIte, show decide ((f.1 : Int) < (rows.length : Int)) = true from decide_eq_true (by omega), Is_idx hi, hw, show decide (f.2 + z ≤ rows[f.1]) = true from decide_eq_true hg]
    unfold addF
    rw [if_pos hx]; rfl
  · have ha : addF rows f z = nxF rows.length z (rows.drop (f.1 + 1)) (f.1 + 1) := by unfold addF; rw [if_neg hx]
    rw [ha]
    by_cases h2 : f.1 < rows.length
    case' pos =>
      have hi : rows[f.1]? = some rows[f.1] := List.getElem?_eq_getElem h2
      have hg : ¬f.2 + z ≤ rows[f.1] := fun h => hx ⟨h2, by rw [getD_lt h2]; exact h⟩
      simp only [go_sem, Nat.reduceEqDiff, Nat.reduceAdd, Nat.reduceLT, Nat.reduceLeDiff, reduceIte, show decide ((f.1 : Int) < (rows.length : Int)) = true from decide_eq_true (by omega), Is_idx hi, hw, show decide (f.2 + z ≤ rows[f.1]) = false from decide_eq_false hg, hw1]
    case' neg =>
      simp only [go_sem, Nat.reduceEqDiff, Nat.reduceAdd, Nat.reduceLT, Nat.reduceLeDiff, reduceIte, show decide ((f.1 : Int) < (rows.length : Int)) = false from decide_eq_false (by omega), hw1]
    all_goals
      refine WL_inv (α := Nat × List Int) (fun q e mm => e 0 = encIs rows ∧ e 2 = I64 z ∧ e 6 = .ptr 1 0 0 ∧ e 7 = I64 q.1 ∧ rows.drop q.1 = q.2 ∧ nxF rows.length z q.2 q.1 = nxF rows.length z (rows.drop (f.1 + 1)) (f.1 + 1) ∧ mm = ⟨[.live [encF f] 2, .live [.agg [I64 0, I64 0]] 2], []⟩ ∧ q.1 ≤ rows.length + 1) (fun q => q.2.length) (f.1 + 1, rows.drop (f.1 + 1)) ?_ ?_
      · simp only [go_sem, Nat.reduceEqDiff, Nat.reduceAdd, Nat.reduceLT, Nat.reduceLeDiff, reduceIte]
        refine ⟨trivial, trivial, trivial, trivial, trivial, trivial, ?_, by omega⟩
        first | trivial | rfl
      rintro ⟨k, r⟩ e m ⟨g0, g2, g6, g7, hd, hq, rfl, hk0⟩
      dsimp only at g7 hd hq hk0
      cases r with
      | nil =>
        have h4 := drop_nil hd
        simp only [go_sem, Nat.reduceEqDiff, Nat.reduceAdd, Nat.reduceLT, Nat.reduceLeDiff, reduceIte, g0, g2, g6, g7, dec_ge h4]
        rw [← hq]; rfl
      | cons x r =>
        obtain ⟨hk, hd2, hlt⟩ := drop_cons hd
        by_cases hzx : z ≤ x
        · simp only [go_sem, Nat.reduceEqDiff, Nat.reduceAdd, Nat.reduceLT, Nat.reduceLeDiff, reduceIte, g0, g2, g6, g7, dec_lt hlt, Is_idx hk, show decide (z ≤ x) = true from decide_eq_true hzx]
          rw [← hq, nxF, if_pos hzx]; rfl
        · simp only [go_sem, Nat.reduceEqDiff, Nat.reduceAdd, Nat.reduceLT, Nat.reduceLeDiff, reduceIte, g0, g2, g6, g7, dec_lt hlt, Is_idx hk, show decide (z ≤ x) = false from decide_eq_false hzx, wrap_n1 k (by omega)]
          refine Nx_of (k + 1, r) (by simp) ?_
          simp only [go_sem, Nat.reduceEqDiff, Nat.reduceAdd, Nat.reduceLT, Nat.reduceLeDiff, reduceIte, g0, g2, g6]
          exact ⟨trivial, trivial, trivial, trivial, hd2, by rw [← hq, nxF_step hzx], trivial, by omega⟩
end Go.Ab.T
end

section
namespace Go.Ab.T
set_option maxRecDepth 8000
set_option maxHeartbeats 4000000
theorem andNot_tab : ∀ (S : _root_.Fin 128) (k : _root_.Fin 7), S.val.testBit k.val = true → andNotI .i64 (S.val : Int) ((2 ^ k.val : Nat) : Int) = ((S.val - 2 ^ k.val : Nat) : Int) := by decide +kernel
theorem andNot_op {S k : Nat} (hS : S < 128) (hk : k < 7) (h : S.testBit k = true) : binOp .andNot (I64 (S : Int)) (I64 ((2 ^ k : Nat) : Int)) = some (I64 ((S - 2 ^ k : Nat) : Int)) := by
  rw [binOp_andNot]; exact congrArg (fun n => some (AV.int .i64 n)) (andNot_tab ⟨S, hS⟩ ⟨k, hk⟩ h)
theorem shl_op {k : Nat} (hk : k ≤ 7) : binOp .shl (I64 1) (I64 (k : Int)) = some (I64 ((2 ^ k : Nat) : Int)) := by
  rw [binOp_shl, if_neg (by omega), Int.toNat_natCast, Nat.min_eq_left (by show k ≤ 64; omega), Int.one_mul]
  have := pow7 hk
  have h2 : ((2 ^ k : Nat) : Int) = (2 : Int) ^ k := by simp
  rw [← h2]
  generalize 2 ^ k = x at this
  rw [wrap_i64 _ (by omega) (by omega)]
theorem shr_op (S : Nat) {k : Nat} (hk : k ≤ 7) : binOp .shr (I64 (S : Int)) (I64 (k : Int)) = some (I64 ((S >>> k : Nat) : Int)) := by
  rw [binOp_shr, if_neg (by omega), Int.toNat_natCast, Nat.min_eq_left (by show k ≤ 64; omega), shr_nat]
theorem bit_op (S k : Nat) : ((andI .i64 ((S >>> k : Nat) : Int) 1) == 0) = !S.testBit k := by
  rw [and1, ← testBit_mod]
  rcases Nat.mod_two_eq_zero_or_one (S >>> k) with h | h <;> rw [h] <;> rfl
/-- Elements that are all read in one way. -/
def encPs (l : List Pk) : AV := .sl (l.map encP) .unk
theorem Ps_len (m : Mem) (l : List Pk) : lenAt m (encPs l) = some (I64 l.length) := by unfold encPs; rw [lenAt_sl, List.length_map]
theorem Ps_idx {l : List Pk} {k : Nat} {x : Pk} (h : l[k]? = some x) (m : Mem) : idxAt m (encPs l) (I64 (k : Int)) 3 = some (.pv (encP x) 0) := by
  unfold encPs
  rw [idxAt_sl, if_pos (by omega), Int.toNat_natCast, List.getElem?_map, h]
  rfl
attribute [go_sem] Ps_len
/-- Rows as they stand in memory. -/
def nL (l : List Nat) : List AV := l.map fun n : Nat => I64 (n : Int)
theorem nL_set (l : List Nat) (k x : Nat) : nL (l.set k x) = (nL l).set k (I64 (x : Int)) := by unfold nL; rw [List.map_set]
theorem nL_len (l : List Nat) : (nL l).length = l.length := by unfold nL; simp
theorem nL_zero (n : Nat) : nL (List.replicate n 0) = List.replicate n (I64 0) := by unfold nL; rw [List.map_replicate]; rfl
theorem make_ints (m : Mem) {n : Nat} (hn : n ≤ 100) : makeAt m (I64 0) 1 8 (I64 (n : Int)) (I64 (n : Int)) = some (.ref m.blks.length 0 n, newBlk m (nL (List.replicate n 0)) 1) := by
  rw [makeAt_int, if_pos ⟨⟨by omega, rfl⟩, by rw [Int.toNat_natCast]; unfold limit; omega, rfl, rfl⟩, Int.toNat_natCast, nL_zero]
theorem bst_prev {rows zs : List Int} {S : Nat} (h0 : S ≠ 0) (hr : (bst rows zs S).1.1 < rows.length) : (bst rows zs (S - 2 ^ (bst rows zs S).2)).1.1 < rows.length := by
  obtain ⟨z, h1, h2, h3⟩ := bst_last h0 hr
  rw [h3] at hr
  rcases addF_spec rows (bst rows zs (S - 2 ^ (bst rows zs S).2)).1 z with ⟨a1, _⟩ | ⟨_, ⟨j, a1, a2, _⟩ | ⟨a3, _⟩⟩
  · exact a1
  · omega
  · rw [a3] at hr; exact absurd hr (Nat.lt_irrefl _)
theorem idx_ref0 (es : List AV) (ws : List Blk) (tk : List (Nat × Nat)) {n k : Nat} (hk : k < n) : idxAt ⟨.live es 1 :: ws, tk⟩ (.ref 0 0 n) (I64 (k : Int)) 1 = some (.ptr 0 k 0) := by
  simp only [idxAt, lsz, List.getElem?_cons_zero]
  rw [if_pos ⟨⟨by omega, by omega⟩, trivial⟩, Int.toNat_natCast, Nat.zero_add]
theorem nL_get {l : List Nat} {k : Nat} (h : k < l.length) : (nL l)[k]? = some (I64 ((l[k] : Nat) : Int)) := by
  unfold nL; rw [List.getElem?_map, List.getElem?_eq_getElem h]; rfl
theorem store_ref0 {es : List AV} (ws : List Blk) (tk : List (Nat × Nat)) {k : Nat} {x : Int} {n : Int} (hk : es[k]? = some (I64 x)) : storeAt ⟨.live es 1 :: ws, tk⟩ (.ptr 0 k 0) (I64 n) 1 = some ⟨.live (es.set k (I64 n)) 1 :: ws, tk⟩ := by
  simp only [storeAt, List.getElem?_cons_zero, hk]
  rfl
theorem unpack_W {rows zs : List Int} (hL : zs.length ≤ 7) (hrow : rows.length < 1000000) {l : List Pk} (hl : l = (List.range (2 ^ zs.length)).map (bst rows zs)) (hok : (bst rows zs (fullS zs)).1.1 < rows.length) (K : AV → Mem → Prop)
    (hK : ∀ ws : List Blk, ws.all Blk.ownly = true → K (.ref 0 0 zs.length) ⟨.live (nL (rowsPk rows zs)) 1 :: ws, []⟩) : @WRH ft (.f 64) [encPs l, I64 zs.length] ⟨[], []⟩ ⟨K⟩ := by
  have hlen : l.length = 2 ^ zs.length := by subst hl; simp
  have hg : ∀ S, S < 2 ^ zs.length → l[S]? = some (bst rows zs S) := fun S hS => by
    subst hl; rw [List.getElem?_map, List.getElem?_range hS]; rfl
  have h7 := pow7 hL
  have hp := Nat.two_pow_pos zs.length
  show WR ft (.f 64) _ _ _
  rw [WR_f ft64 rfl]
  simp only [c64, r64]
  have hw : IntKind.i64.wrap (((2 ^ zs.length : Nat) : Int) - 1) = ((fullS zs : Nat) : Int) := by
    unfold fullS
    rw [wrap_i64 _ (by omega) (by omega)]; omega
  simp only [go_sem, Nat.reduceEqDiff, Nat.reduceAdd, Nat.reduceLT, Nat.reduceLeDiff, reduceIte, make_ints _ (show zs.length ≤ 100 by omega), hlen, hw]
  refine WL_inv (α := Nat × Nat × List Nat × List Blk) (fun q e mm => e 0 = encPs l ∧ e 5 = .ref 0 0 zs.length ∧ e 6 = I64 q.2.1 ∧ q.2.1 ≤ q.1 ∧ q.2.1 < 2 ^ zs.length ∧ (bst rows zs q.2.1).1.1 < rows.length ∧ q.2.2.1.length = zs.length ∧ unF rows zs q.1 q.2.1 q.2.2.1 = rowsPk rows zs ∧ mm = ⟨.live (nL q.2.2.1) 1 :: q.2.2.2, []⟩ ∧ q.2.2.2.all Blk.ownly = true) (fun q => q.1) (fullS zs, fullS zs, List.replicate zs.length 0, []) ?_ ?_
  · simp only [go_sem, Nat.reduceEqDiff, Nat.reduceAdd, Nat.reduceLT, Nat.reduceLeDiff, reduceIte]
    exact ⟨trivial, trivial, trivial, Nat.le_refl _, by unfold fullS; omega, hok, by simp, rfl, trivial⟩
  rintro ⟨n, S, acc, ws⟩ e m ⟨g0, g5, g6, hn, hS, hr, ha, hu, rfl, hw2⟩
  dsimp only at g6 hn hS hr ha hu hw2
  by_cases h0 : S = 0
  · subst h0
    have : unF rows zs n 0 acc = acc := by cases n <;> rfl
    rw [this] at hu
    subst hu
    simp only [go_sem, Nat.reduceEqDiff, Nat.reduceAdd, Nat.reduceLT, Nat.reduceLeDiff, reduceIte, g0, g5, g6, show decide (((0 : Nat) : Int) > 0) = false from rfl]
    exact hK ws hw2
  · obtain ⟨z, h1, h2, h3⟩ := bst_last h0 hr
    have hk : (bst rows zs S).2 < zs.length := by
      rcases Nat.lt_or_ge (bst rows zs S).2 zs.length with h | h
      · exact h
      · rw [List.getElem?_eq_none h] at h1; cases h1
    obtain ⟨n, rfl⟩ : ∃ n', n = n' + 1 := ⟨n - 1, by omega⟩
    have hpv := bst_prev h0 hr
    have hp2 := testBit_le h2
    have hp3 := Nat.two_pow_pos (bst rows zs S).2
    rw [unF, if_neg h0] at hu
    simp only [go_sem, Nat.reduceEqDiff, Nat.reduceAdd, Nat.reduceLT, Nat.reduceLeDiff, reduceIte, g0, g5, g6, show decide ((S : Int) > 0) = true from decide_eq_true (by omega), Ps_idx (hg S hS), shl_op (show (bst rows zs S).2 ≤ 7 by omega), andNot_op (show S < 128 by omega) (show (bst rows zs S).2 < 7 by omega) h2, idx_ref0 _ _ _ hk, nL_get (show (bst rows zs S).2 < acc.length by omega)]
    refine Nx_of (n, S - 2 ^ (bst rows zs S).2, acc.set (bst rows zs S).2 (bst rows zs S).1.1, ws ++ [.live [encP (bst rows zs S)] 3]) (by simp) ?_
    simp only [go_sem, Nat.reduceEqDiff, Nat.reduceAdd, Nat.reduceLT, Nat.reduceLeDiff, reduceIte, g0, g5]
    refine ⟨trivial, trivial, trivial, by omega, by omega, hpv, by simpa using ha, hu, ?_, ?_⟩
    · rw [nL_set]; rfl
    · rw [List.all_append, hw2]; rfl
end Go.Ab.T
end
