/-
 A part of the proofs over this seat.
 (The texts KqM1 KqM2 KqK1 KqK2 KqK3 KqK4 KqK5 KqK0 KqK6, one behind the other.)
-/
import Derived.Test.YtlmhadnbcmjaeaaGreatT1
import Derived.Test.YtlmhadnbcmjaeaaGreatA5
import Derived.KernelRfl
set_option linter.unusedSimpArgs false
set_option linter.unusedVariables false
set_option linter.unusedSectionVars false
section
namespace Go.Ab.T
set_option maxRecDepth 8000
set_option maxHeartbeats 4000000
def nxF (R : Nat) (z : Int) : List Int → Nat → Nat × Int
 | [], _ => (R, 0)
 | x :: r, k => if z ≤ x then (k, z) else nxF R z r (k + 1)
def addF (rows : List Int) (f : Nat × Int) (z : Int) : Nat × Int :=
 if f.1 < rows.length ∧ f.2 + z ≤ rows.getD f.1 0 then (f.1, f.2 + z) else nxF rows.length z (rows.drop (f.1 + 1)) (f.1 + 1)
def leF (a b : Nat × Int) : Prop := a.1 < b.1 ∨ (a.1 = b.1 ∧ a.2 ≤ b.2)
theorem leF.refl (a : Nat × Int) : leF a a := .inr ⟨rfl, Int.le_refl _⟩
theorem leF.trans {a b c : Nat × Int} (h : leF a b) (h' : leF b c) : leF a c := by unfold leF at *; omega
abbrev Pk := (Nat × Int) × Nat
def p0 : Pk := ((0, 0), 0)
theorem getD_lt {l : List Int} {r : Nat} (h : r < l.length) : l.getD r 0 = l[r] := by rw [List.getD_eq_getElem?_getD, List.getElem?_eq_getElem h]; rfl
theorem wrap_n1 (k : Nat) (h : k < 4611686018427387904) : IntKind.i64.wrap ((k : Int) + 1) = ((k + 1 : Nat) : Int) := by rw [wrap_i64 _ (by omega) (by omega)]; omega
theorem wrap_n1' (k : Nat) (h : k + 1 < 9223372036854775808) : IntKind.i64.wrap ((k : Int) + 1) = ((k + 1 : Nat) : Int) := by rw [wrap_i64 _ (by omega) (by omega)]; omega
def encIs (l : List Int) : AV := .sl (l.map I64) .unk
theorem IsCells (l : List Int) : (encIs l).cells = [encIs l] := rfl
theorem IsSolid (l : List Int) : (encIs l).solid = true := rfl
theorem IsAgg (l : List Int) : (encIs l).isAgg = false := rfl
theorem Is_len (m : Mem) (l : List Int) : lenAt m (encIs l) = some (I64 l.length) := by unfold encIs; rw [lenAt_sl, List.length_map]
theorem Is_get (l : List Int) (k : Nat) : (l.map I64)[k]? = l[k]?.map I64 := List.getElem?_map
theorem Is_idx {l : List Int} {k : Nat} {x : Int} (h : l[k]? = some x) (m : Mem) : idxAt m (encIs l) (I64 (k : Int)) 1 = some (.pv (I64 x) 0) := by
 unfold encIs
 rw [idxAt_sl, if_pos (by omega), Int.toNat_natCast, Is_get, h]
 rfl
theorem Is_idxI {l : List Int} {n : Int} {x : Int} (h0 : 0 ≤ n) (h : l[n.toNat]? = some x) (m : Mem) : idxAt m (encIs l) (I64 n) 1 = some (.pv (I64 x) 0) := by
 have := Is_idx h m
 rwa [Int.toNat_of_nonneg h0] at this
theorem snIs (m : Mem) (q : Nat) (l : List Int) : snap m (q + 2) (encIs l) = encIs l := by
 show AV.sl ((l.map I64).map (snap m (q + 1))) .unk = _
 rw [List.map_map, show snap m (q + 1) ∘ I64 = I64 from funext (fun _ => rfl)]; rfl
theorem hotIs (q : Nat) (l : List Int) : hot (q + 2) (encIs l) = false := by
 show (l.map I64).any (hot (q + 1)) = false
 rw [List.any_map, List.any_eq_false]; intro x _; simp only [Function.comp]; rw [show hot (q + 1) (I64 x) = false from rfl]; decide
attribute [go_sem] snIs hotIs IsCells IsSolid IsAgg Is_len
def inR (n lo hi : Int) : Bool := decide (lo ≤ n) && decide (n ≤ hi)
def szR (n : Int) : Bool := inR n 1 12
theorem within_ok (n lo hi : Int) : RV ft 48 [I64 n, I64 lo, I64 hi] (.bool (inR n lo hi)) := by
 refine RV_of ft48 rfl ?_
 simp only [c48, r48]
 unfold inR
 cases h : decide (lo ≤ n) <;> simp only [go_sem, Nat.reduceEqDiff, Nat.reduceAdd, Nat.reduceLT, Nat.reduceLeDiff, reduceIte, h, Bool.true_and, Bool.false_and]
theorem isWithin_ok (n lo hi : Int) : RV ft 44 [I64 n, I64 lo, I64 hi] (.bool (inR n lo hi)) := by
 refine RV_of ft44 rfl ?_
 simp only [c44, r44]
 unfold inR
 cases h : decide (lo ≤ n) <;> simp only [go_sem, Nat.reduceEqDiff, Nat.reduceAdd, Nat.reduceLT, Nat.reduceLeDiff, reduceIte, h, Bool.true_and, Bool.false_and]
theorem isSize_ok (n : Int) : RV ft 39 [I64 n] (.bool (szR n)) := by
 refine RV_of ft39 rfl ?_
 simp only [c39, r39]
 simp only [go_sem, Nat.reduceEqDiff, Nat.reduceAdd, Nat.reduceLT, Nat.reduceLeDiff, reduceIte, WB44, WVH_eq (isWithin_ok _ _ _), true_and]
 rfl
def idxP {α : Type} (p : α → Bool) : List α → Nat → Int
 | [], _ => -1
 | x :: r, k => if p x = true then (k : Int) else idxP p r (k + 1)
theorem idxP_any {α : Type} (p : α → Bool) : ∀ (l : List α) (k : Nat), decide (0 ≤ idxP p l k) = l.any p
 | [], k => rfl
 | x :: r, k => by
  unfold idxP
  cases h : p x
  ·simp only [Bool.false_eq_true, if_false, List.any_cons, h, Bool.false_or]
   exact idxP_any p r (k + 1)
  ·simp only [if_true, List.any_cons, h, Bool.true_or]
   exact decide_eq_true (by omega)
theorem not_any_not {α : Type} (p : α → Bool) (l : List α) : (!(l.any fun x => !p x)) = l.all p := by
 rw [List.all_eq_not_any_not]
theorem IndexFuncI_ok (l : List Int) (f : AV) (p : Int → Bool) (hl : l.length < 1073741824)
  (hf : ∀ x ∈ l, ∀ (e : Nat → AV) (m : Mem) (K : AV → St → Prop), K (.bool (p x)) ⟨e, m⟩ → @WAH ft f [I64 x] ⟨e, m⟩ ⟨K⟩) : RV ft 93 [encIs l, f] (I64 (idxP p l 0)) := by
 refine RV_of ft93 rfl ?_
 simp only [c93, r93]
 simp only [go_sem, Nat.reduceEqDiff, Nat.reduceAdd, Nat.reduceLT, Nat.reduceLeDiff, reduceIte]
 refine WL_inv (α := Nat × List Int) (fun q e mm => e 0 = encIs l ∧ e 1 = f ∧ e 7 = I64 l.length ∧ e 8 = I64 q.1 ∧ l.drop q.1 = q.2 ∧ idxP p q.2 q.1 = idxP p l 0) (fun q => q.2.length) (0, l) ?_ ?_
 ·simp only [go_sem, Nat.reduceEqDiff, Nat.reduceAdd, Nat.reduceLT, Nat.reduceLeDiff, reduceIte]
  ((repeat' apply And.intro) <;> first | trivial | rfl | omega | assumption)
 rintro ⟨k, r⟩ e m ⟨h0, h1, h7, h8, hd, hq⟩
 dsimp only at h8 hd hq
 cases r with
 | nil =>
  have h3 := drop_nil hd
  simp only [go_sem, Nat.reduceEqDiff, Nat.reduceAdd, Nat.reduceLT, Nat.reduceLeDiff, reduceIte, h0, h1, h7, h8, dec_ge h3]
  rw [← hq]; rfl
 | cons x r =>
  obtain ⟨hk, hd2, hlt⟩ := drop_cons hd
  simp only [go_sem, Nat.reduceEqDiff, Nat.reduceAdd, Nat.reduceLT, Nat.reduceLeDiff, reduceIte, h0, h1, h7, h8, dec_lt hlt, Is_idx hk]
  refine hf x (List.mem_of_getElem? hk) _ _ _ ?_
  cases hx : p x
  ·simp only [go_sem, Nat.reduceEqDiff, Nat.reduceAdd, Nat.reduceLT, Nat.reduceLeDiff, reduceIte, h0, h1, h7, h8, wrap_n1 k (by omega)]
   refine Nx_of (k + 1, r) (by simp) ?_
   simp only [go_sem, Nat.reduceEqDiff, Nat.reduceAdd, Nat.reduceLT, Nat.reduceLeDiff, reduceIte, h0, h1, h7]
   exact ⟨t_, t_, t_, t_, hd2, by rw [← hq]; simp [idxP, hx]⟩
  ·simp only [go_sem, Nat.reduceEqDiff, Nat.reduceAdd, Nat.reduceLT, Nat.reduceLeDiff, reduceIte, h0, h1, h7, h8]
   rw [← hq]; simp [idxP, hx]
theorem ContainsFuncI_ok (l : List Int) (f : AV) (p : Int → Bool) (hl : l.length < 1073741824) (hs : ∀ (m : Mem) (q : Nat), snap m (q + 10) f = f) (hh : ∀ q, hot (q + 10) f = false)
  (hf : ∀ x ∈ l, ∀ (e : Nat → AV) (m : Mem) (K : AV → St → Prop), K (.bool (p x)) ⟨e, m⟩ → @WAH ft f [I64 x] ⟨e, m⟩ ⟨K⟩) : RV ft 64 [encIs l, f] (.bool (l.any p)) := by
 refine RV_of ft64 rfl ?_
 simp only [c64, r64]
 simp only [go_sem, Nat.reduceEqDiff, Nat.reduceAdd, Nat.reduceLT, Nat.reduceLeDiff, reduceIte, WB93, hs, hh, WVH_eq (IndexFuncI_ok l f p hl hf), true_and, idxP_any]
theorem allI_ok (l : List Int) (g : AV) (p : Int → Bool) (hl : l.length < 1073741824) (hc : g.cells = [g]) (hso : g.solid = true) (hs : ∀ (m : Mem) (q : Nat), snap m (q + 8) g = g) (hh : ∀ q, hot (q + 8) g = false)
  (hf : ∀ x ∈ l, ∀ (e : Nat → AV) (m : Mem) (K : AV → St → Prop), K (.bool (p x)) ⟨e, m⟩ → @WAH ft g [I64 x] ⟨e, m⟩ ⟨K⟩) : RV ft 45 [encIs l, g] (.bool (l.all p)) := by
 refine RV_of ft45 rfl ?_
 simp only [c45, r45]
 have hk : ∀ x ∈ l, RV ft 65 [I64 x, .pv g 0] (.bool (!p x)) := fun x hx => by
  refine RV_of ft65 rfl ?_
  simp only [c65, r65]
  simp only [go_sem, Nat.reduceEqDiff, Nat.reduceAdd, Nat.reduceLT, Nat.reduceLeDiff, reduceIte, hc]
  refine hf x hx _ _ _ ?_
  simp only [go_sem, Nat.reduceEqDiff, Nat.reduceAdd, Nat.reduceLT, Nat.reduceLeDiff, reduceIte]
 have hC := ContainsFuncI_ok l (.fn 65 [] [.pv g 0]) (fun x => !p x) hl (fun m q => by
  show AV.fn 65 [] [.pv (snap m (q + 8) g) 0] = _
  rw [hs]) (fun q => by
  show (false || (hot (q + 8) g || false)) = false
  rw [hh]; rfl) (fun x hx e m K hK => by
  rw [WAH_fn]
  simp only [List.nil_append, List.cons_append]
  simp only [go_sem, Nat.reduceEqDiff, Nat.reduceAdd, Nat.reduceLT, Nat.reduceLeDiff, reduceIte, WB65, hs, hh, WVH_eq (hk x hx), true_and]
  exact hK)
 simp only [go_sem, Nat.reduceEqDiff, Nat.reduceAdd, Nat.reduceLT, Nat.reduceLeDiff, reduceIte, hc, hso, hs, hh, WB64, WVH_eq hC, true_and, not_any_not]
theorem allSizes_ok (l : List Int) (hl : l.length < 1073741824) : RV ft 45 [encIs l, .fn 39 [] []] (.bool (l.all szR)) :=
 allI_ok l _ szR hl rfl rfl (fun _ _ => rfl) (fun _ => rfl) fun x _ e m K hK => by
  rw [WAH_fn]
  simp only [List.nil_append, List.append_nil]
  simp only [go_sem, Nat.reduceEqDiff, Nat.reduceAdd, Nat.reduceLT, Nat.reduceLeDiff, reduceIte, WB39, WVH_eq (isSize_ok x), true_and]
  exact hK
structure Hl where
 rows : List Int
 hold : Int
def encH (h : Hl) : AV := .agg [encIs h.rows, I64 h.hold]
theorem HCells (h : Hl) : (encH h).cells = [encIs h.rows, I64 h.hold] := rfl
theorem HEta (h : Hl) : AV.agg [encIs h.rows, I64 h.hold] = encH h := rfl
theorem snH (m : Mem) (q : Nat) (h : Hl) : snap m (q + 3) (encH h) = encH h := by
 show AV.agg [snap m (q + 2) (encIs h.rows), I64 h.hold] = _
 rw [snIs]; rfl
theorem hotH (q : Nat) (h : Hl) : hot (q + 3) (encH h) = false := by
 show (hot (q + 2) (encIs h.rows) || (false || false)) = false
 rw [hotIs]; rfl
attribute [go_sem] HCells HEta snH hotH
def okH (h : Hl) : Bool := inR h.rows.length 1 6 && (h.rows.all szR && inR h.hold 1 600)
theorem inR_iff {n a b : Int} (h : inR n a b = true) : a ≤ n ∧ n ≤ b := by
 unfold inR at h
 rw [Bool.and_eq_true, decide_eq_true_eq, decide_eq_true_eq] at h; exact h
theorem validHall_ok (h : Hl) : RV ft 26 [encH h] (.bool (okH h)) := by
 refine RV_of ft26 rfl ?_
 simp only [c26, r26]
 unfold okH
 cases d0 : inR h.rows.length 1 6
 case false => simp only [go_sem, Nat.reduceEqDiff, Nat.reduceAdd, Nat.reduceLT, Nat.reduceLeDiff, reduceIte, WB44, WVH_eq (isWithin_ok _ _ _), true_and, d0, Bool.false_and]
 have hl : h.rows.length < 1073741824 := by have := inR_iff d0; omega
 cases d1 : h.rows.all szR
 case false => simp only [go_sem, Nat.reduceEqDiff, Nat.reduceAdd, Nat.reduceLT, Nat.reduceLeDiff, reduceIte, WB44, WVH_eq (isWithin_ok _ _ _), WB45, WVH_eq (allSizes_ok _ hl), true_and, d0, d1, Bool.false_and, Bool.true_and]
 simp only [go_sem, Nat.reduceEqDiff, Nat.reduceAdd, Nat.reduceLT, Nat.reduceLeDiff, reduceIte, WB44, WVH_eq (isWithin_ok _ _ _), WB45, WVH_eq (allSizes_ok _ hl), true_and, d0, d1, Bool.true_and]
theorem IsHall_ok (h : Hl) (hl : h.rows.length < 9223372036854775808) : RV ft 29 [encH h] (.bool (okH h)) := by
 refine RV_of ft29 rfl ?_
 simp only [c29, r29]
 simp only [go_sem, Nat.reduceEqDiff, Nat.reduceAdd, Nat.reduceLT, Nat.reduceLeDiff, reduceIte]
 refine WL_inv (α := Nat × List Int) (fun q e mm => e 1 = .ptr 0 0 0 ∧ e 3 = I64 q.1 ∧ h.rows.drop q.1 = q.2 ∧ q.2.all szR = h.rows.all szR ∧ q.1 ≤ h.rows.length ∧ mm = ⟨[.live [encH h] 2], []⟩) (fun q => q.2.length) (0, h.rows) ?_ ?_
 ·simp only [go_sem, Nat.reduceEqDiff, Nat.reduceAdd, Nat.reduceLT, Nat.reduceLeDiff, reduceIte]
  ((repeat' apply And.intro) <;> first | trivial | rfl | omega | assumption)
 rintro ⟨k, r⟩ e m ⟨h1, h3, hd, hq, hk0, rfl⟩
 dsimp only at h3 hd hq hk0
 cases r with
 | nil =>
  have h4 := drop_nil hd
  have hq' : h.rows.all szR = true := by rw [← hq]; rfl
  unfold okH
  cases d0 : inR h.rows.length 1 6 <;> simp only [go_sem, Nat.reduceEqDiff, Nat.reduceAdd, Nat.reduceLT, Nat.reduceLeDiff, reduceIte, h1, h3, dec_ge h4, WB48, WVH_eq (within_ok _ _ _), true_and, d0, hq', Bool.true_and, Bool.false_and]
 | cons x r =>
  obtain ⟨hk, hd2, hlt⟩ := drop_cons hd
  cases hx : szR x
  ·have hx' : inR x 1 12 = false := hx
   have hq' : h.rows.all szR = false := by rw [← hq]; simp [hx]
   simp only [go_sem, Nat.reduceEqDiff, Nat.reduceAdd, Nat.reduceLT, Nat.reduceLeDiff, reduceIte, h1, h3, dec_lt hlt, Is_idx hk, WB48, WVH_eq (within_ok _ _ _), true_and, hx']
   unfold okH
   rw [hq']; simp
  ·have hx' : inR x 1 12 = true := hx
   simp only [go_sem, Nat.reduceEqDiff, Nat.reduceAdd, Nat.reduceLT, Nat.reduceLeDiff, reduceIte, h1, h3, dec_lt hlt, Is_idx hk, WB48, WVH_eq (within_ok _ _ _), true_and, hx', wrap_n1' k (by omega)]
   refine Nx_of (k + 1, r) (by simp) ?_
   simp only [go_sem, Nat.reduceEqDiff, Nat.reduceAdd, Nat.reduceLT, Nat.reduceLeDiff, reduceIte, h1]
   exact ⟨t_, t_, hd2, by rw [← hq]; simp [hx], by omega, t_⟩
def encF (f : Nat × Int) : AV := .agg [I64 (f.1 : Int), I64 f.2]
theorem FCells (f : Nat × Int) : (encF f).cells = [I64 (f.1 : Int), I64 f.2] := rfl
theorem snF (m : Mem) (q : Nat) (f : Nat × Int) : snap m (q + 2) (encF f) = encF f := rfl
theorem hotF (q : Nat) (f : Nat × Int) : hot (q + 2) (encF f) = false := rfl
def encP (p : Pk) : AV := .agg [I64 (p.1.1 : Int), I64 p.1.2, I64 (p.2 : Int)]
theorem PCells (p : Pk) : (encP p).cells = [I64 (p.1.1 : Int), I64 p.1.2, I64 (p.2 : Int)] := rfl
theorem snP (m : Mem) (q : Nat) (p : Pk) : snap m (q + 2) (encP p) = encP p := rfl
theorem hotP (q : Nat) (p : Pk) : hot (q + 2) (encP p) = false := rfl
attribute [go_sem] FCells snF hotF PCells snP hotP
theorem isNaN_ok (n : Int) : RV ft 98 [I64 n] (.bool false) := by
 refine RV_of ft98 rfl ?_
 simp only [c98, r98]
 simp only [go_sem, Nat.reduceEqDiff, Nat.reduceAdd, Nat.reduceLT, Nat.reduceLeDiff, reduceIte, show (n != n) = false by simp]
def cmpZ (a b : Int) : Int := if a < b then -1 else if b < a then 1 else 0
theorem Compare_ok (a b : Int) : RV ft 74 [I64 a, I64 b] (I64 (cmpZ a b)) := by
 refine RV_of ft74 rfl ?_
 simp only [c74, r74]
 unfold cmpZ
 by_cases h1 : a < b
 ·simp only [go_sem, Nat.reduceEqDiff, Nat.reduceAdd, Nat.reduceLT, Nat.reduceLeDiff, reduceIte, WB98, WVH_eq (isNaN_ok _), true_and, show decide (a < b) = true from decide_eq_true h1]
  rw [if_pos h1]
 ·by_cases h2 : b < a
  ·simp only [go_sem, Nat.reduceEqDiff, Nat.reduceAdd, Nat.reduceLT, Nat.reduceLeDiff, reduceIte, WB98, WVH_eq (isNaN_ok _), true_and, show decide (a < b) = false from decide_eq_false h1, show decide (b < a) = true from decide_eq_true h2]
   rw [if_neg h1, if_pos h2]
  ·simp only [go_sem, Nat.reduceEqDiff, Nat.reduceAdd, Nat.reduceLT, Nat.reduceLeDiff, reduceIte, WB98, WVH_eq (isNaN_ok _), true_and, show decide (a < b) = false from decide_eq_false h1, show decide (b < a) = false from decide_eq_false h2]
   rw [if_neg h1, if_neg h2]
def orZ (l : List Int) : Int := (l.find? (· != 0)).getD 0
theorem Or_ok (l : List Int) (hl : l.length < 1073741824) : RV ft 73 [encIs l] (I64 (orZ l)) := by
 refine RV_of ft73 rfl ?_
 simp only [c73, r73]
 simp only [go_sem, Nat.reduceEqDiff, Nat.reduceAdd, Nat.reduceLT, Nat.reduceLeDiff, reduceIte]
 refine WL_inv (α := Nat × List Int) (fun q e mm => e 3 = I64 0 ∧ e 6 = encIs l ∧ e 7 = I64 l.length ∧ e 8 = I64 q.1 ∧ l.drop q.1 = q.2 ∧ orZ q.2 = orZ l ∧ q.1 ≤ l.length) (fun q => q.2.length) (0, l) ?_ ?_
 ·simp only [go_sem, Nat.reduceEqDiff, Nat.reduceAdd, Nat.reduceLT, Nat.reduceLeDiff, reduceIte]
  ((repeat' apply And.intro) <;> first | trivial | rfl | omega | assumption)
 rintro ⟨k, r⟩ e m ⟨h3, h6, h7, h8, hd, hq, hk0⟩
 dsimp only at h8 hd hq hk0
 cases r with
 | nil =>
  have h4 := drop_nil hd
  simp only [go_sem, Nat.reduceEqDiff, Nat.reduceAdd, Nat.reduceLT, Nat.reduceLeDiff, reduceIte, h3, h6, h7, h8, dec_ge h4]
  rw [← hq]; rfl
 | cons y r =>
  obtain ⟨hk, hd2, hlt⟩ := drop_cons hd
  cases hx : (y != 0)
  ·simp only [go_sem, Nat.reduceEqDiff, Nat.reduceAdd, Nat.reduceLT, Nat.reduceLeDiff, reduceIte, h3, h6, h7, h8, dec_lt hlt, Is_idx hk, hx, wrap_n1 k (by omega)]
   refine Nx_of (k + 1, r) (by simp) ?_
   simp only [go_sem, Nat.reduceEqDiff, Nat.reduceAdd, Nat.reduceLT, Nat.reduceLeDiff, reduceIte, h3, h6, h7]
   exact ⟨t_, t_, t_, t_, hd2, by rw [← hq]; unfold orZ; rw [List.find?_cons, hx], by omega⟩
  ·simp only [go_sem, Nat.reduceEqDiff, Nat.reduceAdd, Nat.reduceLT, Nat.reduceLeDiff, reduceIte, h3, h6, h7, h8, dec_lt hlt, Is_idx hk, hx]
   rw [← hq]; unfold orZ; rw [List.find?_cons, hx]; rfl
theorem or_lt0 (a b c d : Int) : decide (orZ [cmpZ a b, cmpZ c d] < 0) = decide (a < b ∨ (a = b ∧ c < d)) := by
 unfold orZ cmpZ
 rw [decide_eq_decide]
 by_cases h1 : a < b
 ·simp [h1]
 ·by_cases h2 : b < a
  ·simp [h1, h2]; omega
  ·by_cases h3 : c < d
   ·simp [h1, h2, h3]; omega
   ·by_cases h4 : d < c <;> simp [h1, h2, h3, h4]
theorem sn2 (m : Mem) (q : Nat) (a b : Int) (t : Tk) : snap m (q + 2) (.sl [I64 a, I64 b] t) = encIs [a, b] := rfl
theorem hot2 (q : Nat) (a b : Int) (t : Tk) : hot (q + 2) (.sl [I64 a, I64 b] t) = false := rfl
def encPs (l : List Pk) : AV := .sl (l.map encP) .unk
theorem Ps_len (m : Mem) (l : List Pk) : lenAt m (encPs l) = some (I64 l.length) := by unfold encPs; rw [lenAt_sl, List.length_map]
attribute [go_sem] Ps_len
def iL (l : List Int) : List AV := l.map I64
theorem iL_len (l : List Int) : (iL l).length = l.length := by unfold iL; simp
theorem iL_get {l : List Int} {k : Nat} (h : k < l.length) : (iL l)[k]? = some (I64 (l.getD k 0)) := by
 unfold iL; rw [List.getElem?_map, List.getElem?_eq_getElem h, getD_lt h]; rfl
theorem iL_set (l : List Int) (k : Nat) (x : Int) : (iL l).set k (I64 x) = iL (l.set k x) := by unfold iL; rw [List.map_set]
theorem works_run : callV (run2 ft 400) 6 [] = some (.bool true) := by kernel_rfl
theorem works_ok : RV ft 6 [] (.bool true) := RV_of_run2 400 works_run
theorem app_ints (bl : List Blk) (tk : List (Nat × Nat)) (l : List Int) (hl : l.length ≤ 1000) : ∃ w tk', appendAt ⟨bl, tk⟩ false (.sl [] .tight) (encIs l) 3 1 8 = some (.sl (iL l) w, ⟨bl, tk'⟩) := by
 cases l with
 | nil => exact ⟨_, _, rfl⟩
 | cons x r =>
  have h1 : hdSz ((x :: r).map I64) 1 = true := rfl
  have h2 : (x :: r).length * (8 + 1) ≤ limit := by unfold limit; omega
  refine ⟨.at tk.length, tk ++ [((x :: r).length, 3)], ?_⟩
  unfold encIs
  simp only [appendAt, Mem.elems, h1, List.length_map, List.length_nil, Nat.zero_add]
  rw [if_neg (by simp), if_pos ⟨h2, rfl⟩]
  simp [appTk, iL]
theorem snap_iL (m : Mem) (q : Nat) (l : List Int) (w : Tk) : snap m (q + 2) (.sl (iL l) w) = encIs l := by
 show AV.sl ((iL l).map (Ab.snap m (q + 1))) .unk = _
 unfold iL encIs
 rw [List.map_map]; rfl
end Go.Ab.T
end
