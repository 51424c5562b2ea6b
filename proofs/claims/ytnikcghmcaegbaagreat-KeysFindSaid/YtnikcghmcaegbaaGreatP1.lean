/-
 A part of the proofs over this seat.
 (The texts KxK1 KxK2 KxK3 KxK4 KxK5 KxK6 KxK7 KxK8 KxK9 KxK10 KxK11 KxK12 KxK13 KxK14 KxK15 KxK16 KxK17 KxK18 KxK19 KxK20 KxK21 KxK22 KxK23, one behind the other.)
-/
import Derived.Test.YtnikcghmcaegbaaGreatT1
import Derived.Test.YtnikcghmcaegbaaGreatB2
set_option linter.unusedSimpArgs false
set_option linter.unusedVariables false
set_option linter.unusedSectionVars false
set_option maxRecDepth 20000
set_option maxHeartbeats 8000000
namespace Go.Ab.T
def encI (l : List Int) : AV := .sl (l.map fun n => I64 n) .unk
theorem snI (m : Mem) (k : Nat) (l : List Int) : snap m (k + 2) (encI l) = encI l := by
 unfold encI; rw [snap_sl, List.map_map]; congr 1
theorem hotI (k : Nat) (l : List Int) : hot (k + 2) (encI l) = false := by
 unfold encI; rw [hot_sl, List.any_map]
 exact List.any_eq_false.2 fun x _ => by simp [hot]
theorem I_get (l : List Int) (k : Nat) : (l.map fun n => I64 n)[k]? = l[k]?.map fun n => I64 n := List.getElem?_map
theorem wrap_n1 (k : Nat) (h : k < 4611686018427387904) : IntKind.i64.wrap ((k : Int) + 1) = ((k + 1 : Nat) : Int) := by rw [wrap_i64 _ (by omega) (by omega)]; omega
def inR (n lo hi : Int) : Bool := decide (lo ≤ n) && decide (n ≤ hi)
theorem within_ok (n lo hi : Int) : RV ft 73 [I64 n, I64 lo, I64 hi] (.bool (inR n lo hi)) := by
 refine RV_of ft73 rfl ?_
 simp only [c73, r73]
 unfold inR
 cases h : decide (lo ≤ n) <;> simp only [go_sem, Nat.reduceEqDiff, Nat.reduceAdd, Nat.reduceLT, Nat.reduceLeDiff, reduceIte, h, Bool.true_and, Bool.false_and]
theorem isWithin_ok (n lo hi : Int) : RV ft 107 [I64 n, I64 lo, I64 hi] (.bool (inR n lo hi)) := by
 refine RV_of ft107 rfl ?_
 simp only [c107, r107]
 unfold inR
 cases h : decide (lo ≤ n) <;> simp only [go_sem, Nat.reduceEqDiff, Nat.reduceAdd, Nat.reduceLT, Nat.reduceLeDiff, reduceIte, h, Bool.true_and, Bool.false_and]
theorem isId_ok (n : Int) : RV ft 108 [I64 n] (.bool (inR n 0 99)) := by
 refine RV_of ft108 rfl ?_
 simp only [c108, r108]
 simp only [go_sem, Nat.reduceEqDiff, Nat.reduceAdd, Nat.reduceLT, Nat.reduceLeDiff, reduceIte, WB107, WVH_eq (isWithin_ok n 0 99), true_and]
theorem isTime_ok (n : Int) : RV ft 68 [I64 n] (.bool (inR n 0 9999)) := by
 refine RV_of ft68 rfl ?_
 simp only [c68, r68]
 simp only [go_sem, Nat.reduceEqDiff, Nat.reduceAdd, Nat.reduceLT, Nat.reduceLeDiff, reduceIte, WB107, WVH_eq (isWithin_ok n 0 9999), true_and]
theorem In_ok (l : List Int) (n : Int) (hl : l.length < 1073741824) : RV ft 26 [encI l, I64 n] (.bool (l.any (· == n))) := by
 refine RV_of ft26 rfl ?_
 simp only [c26, r26]
 simp only [go_sem, Nat.reduceEqDiff, Nat.reduceAdd, Nat.reduceLT, Nat.reduceLeDiff, reduceIte]
 refine WL_inv (α := Nat × List Int) (fun q e mm => e 0 = encI l ∧ e 1 = I64 n ∧ e 5 = I64 q.1 ∧ l.drop q.1 = q.2 ∧ q.2.any (· == n) = l.any (· == n)) (fun q => q.2.length) (0, l) ?_ ?_
 ·simp only [go_sem, Nat.reduceEqDiff, Nat.reduceAdd, Nat.reduceLT, Nat.reduceLeDiff, reduceIte]
  exact ⟨trivial, trivial, rfl, trivial⟩
 rintro ⟨k, r⟩ e m ⟨h0, h1, h5, hd, ha⟩
 dsimp only at h5 hd ha
 cases r with
 | nil =>
  have := drop_nil hd
  simp only [go_sem, Nat.reduceEqDiff, Nat.reduceAdd, Nat.reduceLT, Nat.reduceLeDiff, reduceIte, h0, h1, h5, encI, List.length_map, dec_ge this]
  rw [← ha]; rfl
 | cons x r =>
  obtain ⟨hk, hd2, hlt⟩ := drop_cons hd
  cases hx : (x == n)
  ·simp only [go_sem, Nat.reduceEqDiff, Nat.reduceAdd, Nat.reduceLT, Nat.reduceLeDiff, reduceIte, h0, h1, h5, encI, List.length_map, dec_lt hlt, dec_nn, Int.toNat_natCast, I_get, hk, hx, wrap_n1 k (by omega)]
   refine Nx_of (k + 1, r) (by simp) ?_
   simp only [go_sem, Nat.reduceEqDiff, Nat.reduceAdd, Nat.reduceLT, Nat.reduceLeDiff, reduceIte, h0, h1, encI]
   exact ⟨trivial, trivial, trivial, hd2, by rw [← ha]; simp [hx]⟩
  ·simp only [go_sem, Nat.reduceEqDiff, Nat.reduceAdd, Nat.reduceLT, Nat.reduceLeDiff, reduceIte, h0, h1, h5, encI, List.length_map, dec_lt hlt, dec_nn, Int.toNat_natCast, I_get, hk, hx]
   rw [← ha]; simp [hx]
attribute [go_sem] snI hotI
def ascF : Option Int → List Int → Bool
 | _, [] => true
 | p, x :: r => inR x 0 99 && ((match p with | none => true | some q => decide (q < x)) && ascF (some x) r)
def ascL (l : List Int) : Bool := ascF none l
def Bef (l : List Int) (k : Nat) (p : Option Int) : Prop := match p with | none => k = 0 | some q => 0 < k ∧ l[k - 1]? = some q
theorem Bef.next {l : List Int} {k : Nat} {x : Int} (h : l[k]? = some x) : Bef l (k + 1) (some x) := ⟨by omega, by simpa using h⟩
theorem asc_ok (l : List Int) (hl : l.length < 1073741824) : RV ft 97 [encI l] (.bool (ascL l)) := by
 refine RV_of ft97 rfl ?_
 simp only [c97, r97]
 simp only [go_sem, Nat.reduceEqDiff, Nat.reduceAdd, Nat.reduceLT, Nat.reduceLeDiff, reduceIte]
 refine WL_inv (α := Nat × Option Int × List Int) (fun q e mm => e 0 = encI l ∧ e 3 = I64 q.1 ∧ Bef l q.1 q.2.1 ∧ l.drop q.1 = q.2.2 ∧ ascF q.2.1 q.2.2 = ascL l) (fun q => q.2.2.length) (0, none, l) ?_ ?_
 ·simp only [go_sem, Nat.reduceEqDiff, Nat.reduceAdd, Nat.reduceLT, Nat.reduceLeDiff, reduceIte]
  exact ⟨trivial, rfl, rfl, trivial, rfl⟩
 rintro ⟨k, p, r⟩ e m ⟨h0, h3, hb, hd, ha⟩
 dsimp only at h3 hb hd ha
 cases r with
 | nil =>
  have := drop_nil hd
  simp only [go_sem, Nat.reduceEqDiff, Nat.reduceAdd, Nat.reduceLT, Nat.reduceLeDiff, reduceIte, h0, h3, encI, List.length_map, dec_ge this]
  rw [← ha]; rfl
 | cons x r =>
  obtain ⟨hk, hd2, hlt⟩ := drop_cons hd
  cases hx : inR x 0 99
  case false =>
   simp only [go_sem, Nat.reduceEqDiff, Nat.reduceAdd, Nat.reduceLT, Nat.reduceLeDiff, reduceIte, h0, h3, encI, List.length_map, dec_lt hlt, dec_nn, Int.toNat_natCast, I_get, hk, WB73, WVH_eq (within_ok x 0 99), hx, true_and]
   rw [← ha]; simp [ascF, hx]
  cases p with
  | none =>
   have hk0 : k = 0 := hb
   subst hk0
   simp only [go_sem, Nat.reduceEqDiff, Nat.reduceAdd, Nat.reduceLT, Nat.reduceLeDiff, reduceIte, h0, h3, encI, List.length_map, dec_lt hlt, show decide ((0 : Int) ≤ ((0 : Nat) : Int)) = true from rfl, show decide ((0 : Int) < ((0 : Nat) : Int)) = false from rfl, Int.toNat_natCast, I_get, hk, WB73, WVH_eq (within_ok x 0 99), hx, true_and, wrap_n1 0 (by omega)]
   refine Nx_of (0 + 1, some x, r) (by simp) ?_
   simp only [go_sem, Nat.reduceEqDiff, Nat.reduceAdd, Nat.reduceLT, Nat.reduceLeDiff, reduceIte, h0, encI]
   exact ⟨trivial, trivial, Bef.next hk, hd2, by rw [← ha]; simp [ascF, hx]⟩
  | some q =>
   obtain ⟨hk0, hq⟩ := hb
   have c0 : decide ((0 : Int) < (k : Int)) = true := decide_eq_true (by omega)
   have w1 : IntKind.i64.wrap ((k : Int) - 1) = ((k - 1 : Nat) : Int) := by rw [wrap_i64 _ (by omega) (by omega)]; omega
   cases hxq : decide (x ≤ q)
   ·simp only [go_sem, Nat.reduceEqDiff, Nat.reduceAdd, Nat.reduceLT, Nat.reduceLeDiff, reduceIte, h0, h3, encI, List.length_map, dec_lt hlt, dec_nn, c0, Int.toNat_natCast, I_get, hk, hq, WB73, WVH_eq (within_ok x 0 99), hx, hxq, w1, true_and, wrap_n1 k (by omega)]
    refine Nx_of (k + 1, some x, r) (by simp) ?_
    simp only [go_sem, Nat.reduceEqDiff, Nat.reduceAdd, Nat.reduceLT, Nat.reduceLeDiff, reduceIte, h0, encI]
    have : decide (q < x) = true := by
     have := of_decide_eq_false hxq; exact decide_eq_true (by omega)
    exact ⟨trivial, trivial, Bef.next hk, hd2, by rw [← ha]; simp [ascF, hx, this]⟩
   ·simp only [go_sem, Nat.reduceEqDiff, Nat.reduceAdd, Nat.reduceLT, Nat.reduceLeDiff, reduceIte, h0, h3, encI, List.length_map, dec_lt hlt, dec_nn, c0, Int.toNat_natCast, I_get, hk, hq, WB73, WVH_eq (within_ok x 0 99), hx, hxq, w1, true_and]
    have : decide (q < x) = false := by
     have := of_decide_eq_true hxq; exact decide_eq_false (by omega)
    rw [← ha]; simp [ascF, hx, this]
theorem ascIds_ok (l : List Int) (hl : l.length < 1073741824) : RV ft 162 [encI l] (.bool (ascL l)) := by
 refine RV_of ft162 rfl ?_
 simp only [c162, r162]
 simp only [go_sem, Nat.reduceEqDiff, Nat.reduceAdd, Nat.reduceLT, Nat.reduceLeDiff, reduceIte, encI, List.length_map]
 refine WL_inv (α := Nat × Option Int × List Int) (fun q e mm => e 0 = encI l ∧ e 5 = encI l ∧ e 6 = I64 l.length ∧ e 7 = I64 q.1 ∧ Bef l q.1 q.2.1 ∧ l.drop q.1 = q.2.2 ∧ ascF q.2.1 q.2.2 = ascL l) (fun q => q.2.2.length) (0, none, l) ?_ ?_
 ·simp only [go_sem, Nat.reduceEqDiff, Nat.reduceAdd, Nat.reduceLT, Nat.reduceLeDiff, reduceIte, encI]
  exact ⟨trivial, trivial, trivial, rfl, rfl, trivial, rfl⟩
 rintro ⟨k, p, r⟩ e m ⟨h0, h5, h6, h3, hb, hd, ha⟩
 dsimp only at h3 hb hd ha
 cases r with
 | nil =>
  have := drop_nil hd
  simp only [go_sem, Nat.reduceEqDiff, Nat.reduceAdd, Nat.reduceLT, Nat.reduceLeDiff, reduceIte, h0, h5, h6, h3, dec_ge this]
  rw [← ha]; rfl
 | cons x r =>
  obtain ⟨hk, hd2, hlt⟩ := drop_cons hd
  cases hx : inR x 0 99
  case false =>
   simp only [go_sem, Nat.reduceEqDiff, Nat.reduceAdd, Nat.reduceLT, Nat.reduceLeDiff, reduceIte, h0, h5, h6, h3, encI, List.length_map, dec_lt hlt, dec_nn, Int.toNat_natCast, I_get, hk, WB108, WVH_eq (isId_ok x), hx, true_and]
   rw [← ha]; simp [ascF, hx]
  cases p with
  | none =>
   have hk0 : k = 0 := hb
   subst hk0
   simp only [go_sem, Nat.reduceEqDiff, Nat.reduceAdd, Nat.reduceLT, Nat.reduceLeDiff, reduceIte, h0, h5, h6, h3, encI, List.length_map, dec_lt hlt, show decide ((0 : Int) ≤ ((0 : Nat) : Int)) = true from rfl, show decide ((0 : Int) < ((0 : Nat) : Int)) = false from rfl, Int.toNat_natCast, I_get, hk, WB108, WVH_eq (isId_ok x), hx, true_and, wrap_n1 0 (by omega)]
   refine Nx_of (0 + 1, some x, r) (by simp) ?_
   simp only [go_sem, Nat.reduceEqDiff, Nat.reduceAdd, Nat.reduceLT, Nat.reduceLeDiff, reduceIte, h0, h5, h6, encI]
   exact ⟨trivial, trivial, trivial, trivial, Bef.next hk, hd2, by rw [← ha]; simp [ascF, hx]⟩
  | some q =>
   obtain ⟨hk0, hq⟩ := hb
   have c0 : decide ((0 : Int) < (k : Int)) = true := decide_eq_true (by omega)
   have w1 : IntKind.i64.wrap ((k : Int) - 1) = ((k - 1 : Nat) : Int) := by rw [wrap_i64 _ (by omega) (by omega)]; omega
   cases hxq : decide (x ≤ q)
   ·simp only [go_sem, Nat.reduceEqDiff, Nat.reduceAdd, Nat.reduceLT, Nat.reduceLeDiff, reduceIte, h0, h5, h6, h3, encI, List.length_map, dec_lt hlt, dec_nn, c0, Int.toNat_natCast, I_get, hk, hq, WB108, WVH_eq (isId_ok x), hx, hxq, w1, true_and, wrap_n1 k (by omega)]
    refine Nx_of (k + 1, some x, r) (by simp) ?_
    simp only [go_sem, Nat.reduceEqDiff, Nat.reduceAdd, Nat.reduceLT, Nat.reduceLeDiff, reduceIte, h0, h5, h6, encI]
    have : decide (q < x) = true := by
     have := of_decide_eq_false hxq; exact decide_eq_true (by omega)
    exact ⟨trivial, trivial, trivial, trivial, Bef.next hk, hd2, by rw [← ha]; simp [ascF, hx, this]⟩
   ·simp only [go_sem, Nat.reduceEqDiff, Nat.reduceAdd, Nat.reduceLT, Nat.reduceLeDiff, reduceIte, h0, h5, h6, h3, encI, List.length_map, dec_lt hlt, dec_nn, c0, Int.toNat_natCast, I_get, hk, hq, WB108, WVH_eq (isId_ok x), hx, hxq, w1, true_and]
    have : decide (q < x) = false := by
     have := of_decide_eq_true hxq; exact decide_eq_false (by omega)
    rw [← ha]; simp [ascF, hx, this]
def eqL : List Int → List Int → Bool
 | [], [] => true
 | x :: r, y :: s => (x == y) && eqL r s
 | _, _ => false
theorem eqL_iff : ∀ (a b : List Int), eqL a b = true ↔ a = b
 | [], [] => by simp [eqL]
 | [], _ :: _ => by simp [eqL]
 | _ :: _, [] => by simp [eqL]
 | x :: r, y :: s => by simp [eqL, eqL_iff r s]
theorem eqL_len {a b : List Int} (h : a.length ≠ b.length) : eqL a b = false := by
 cases hq : eqL a b
 ·rfl
 ·exact absurd (by rw [(eqL_iff a b).1 hq]) h
theorem neq_len (a b : Nat) : ((a : Int) != (b : Int)) = !(a == b) := by
 by_cases h : a = b
 ·subst h; simp
 ·have h1 : ((a : Int) == (b : Int)) = false := by rw [beq_eq_false_iff_ne]; omega
  have h2 : (a == b) = false := by rw [beq_eq_false_iff_ne]; exact h
  simp [bne, h1, h2]
theorem Equal_ok (a b : List Int) (ha : a.length < 1073741824) : RV ft 119 [encI a, encI b] (.bool (eqL a b)) := by
 refine RV_of ft119 rfl ?_
 simp only [c119, r119]
 by_cases hl : a.length = b.length
 case neg =>
  have h2 : (a.length == b.length) = false := by rw [beq_eq_false_iff_ne]; exact hl
  simp only [go_sem, Nat.reduceEqDiff, Nat.reduceAdd, Nat.reduceLT, Nat.reduceLeDiff, reduceIte, encI, List.length_map, neq_len, h2, Bool.not_false]
  rw [eqL_len hl]
 have h2 : (a.length == b.length) = true := by rw [hl]; simp
 simp only [go_sem, Nat.reduceEqDiff, Nat.reduceAdd, Nat.reduceLT, Nat.reduceLeDiff, reduceIte, encI, List.length_map, neq_len, h2, Bool.not_true]
 refine WL_inv (α := Nat × List Int × List Int) (fun q e mm => e 0 = encI a ∧ e 1 = encI b ∧ e 12 = I64 a.length ∧ e 13 = I64 q.1 ∧ a.drop q.1 = q.2.1 ∧ b.drop q.1 = q.2.2 ∧ eqL q.2.1 q.2.2 = eqL a b) (fun q => q.2.1.length) (0, a, b) ?_ ?_
 ·simp only [go_sem, Nat.reduceEqDiff, Nat.reduceAdd, Nat.reduceLT, Nat.reduceLeDiff, reduceIte, encI]
  exact ⟨trivial, trivial, trivial, rfl, trivial⟩
 rintro ⟨k, r, s⟩ e m ⟨h0, h1, h12, h13, hd, he, hq⟩
 dsimp only at h13 hd he hq
 cases r with
 | nil =>
  have h3 := drop_nil hd
  have : s = [] := by rw [← he]; exact List.drop_eq_nil_of_le (by omega)
  subst this
  simp only [go_sem, Nat.reduceEqDiff, Nat.reduceAdd, Nat.reduceLT, Nat.reduceLeDiff, reduceIte, h0, h1, h12, h13, dec_ge h3]
  rw [← hq]; rfl
 | cons x r =>
  obtain ⟨hk, hd2, hlt⟩ := drop_cons hd
  cases s with
  | nil => have := drop_nil he; omega
  | cons y s =>
   obtain ⟨hk', he2, hlt'⟩ := drop_cons he
   cases hxy : (x == y)
   ·have hne : (x != y) = true := by simp [bne, hxy]
    simp only [go_sem, Nat.reduceEqDiff, Nat.reduceAdd, Nat.reduceLT, Nat.reduceLeDiff, reduceIte, h0, h1, h12, h13, encI, List.length_map, dec_lt hlt, dec_nn, Int.toNat_natCast, I_get, hk, hk', hne]
    rw [← hq]; simp [eqL, hxy]
   ·have hne : (x != y) = false := by simp [bne, hxy]
    simp only [go_sem, Nat.reduceEqDiff, Nat.reduceAdd, Nat.reduceLT, Nat.reduceLeDiff, reduceIte, h0, h1, h12, h13, encI, List.length_map, dec_lt hlt, dec_nn, Int.toNat_natCast, I_get, hk, hk', hne, wrap_n1 k (by omega)]
    refine Nx_of (k + 1, r, s) (by simp) ?_
    simp only [go_sem, Nat.reduceEqDiff, Nat.reduceAdd, Nat.reduceLT, Nat.reduceLeDiff, reduceIte, h0, h1, h12, encI]
    exact ⟨trivial, trivial, trivial, trivial, hd2, he2, by rw [← hq]; simp [eqL, hxy]⟩
theorem sameI_ok (a b : List Int) (ha : a.length < 1073741824) (hb : b.length < 1073741824) : RV ft 123 [encI a, encI b] (.bool (eqL a b)) := by
 refine RV_of ft123 rfl ?_
 simp only [c123, r123]
 simp only [go_sem, Nat.reduceEqDiff, Nat.reduceAdd, Nat.reduceLT, Nat.reduceLeDiff, reduceIte]
 refine WL_inv (α := Nat × List Int × List Int) (fun q e mm => e 0 = encI a ∧ e 1 = encI b ∧ e 5 = I64 q.1 ∧ a.drop q.1 = q.2.1 ∧ b.drop q.1 = q.2.2 ∧ q.1 ≤ a.length ∧ q.1 ≤ b.length ∧ eqL q.2.1 q.2.2 = eqL a b) (fun q => q.2.1.length) (0, a, b) ?_ ?_
 ·simp only [go_sem, Nat.reduceEqDiff, Nat.reduceAdd, Nat.reduceLT, Nat.reduceLeDiff, reduceIte]
  exact ⟨trivial, trivial, rfl, trivial, trivial, by omega, by omega, trivial⟩
 rintro ⟨k, r, s⟩ e m ⟨h0, h1, h5, hd, he, hka, hkb, hq⟩
 dsimp only at h5 hd he hka hkb hq
 have hlr : a.length = k + r.length := by rw [← hd]; simp; omega
 have hls : b.length = k + s.length := by rw [← he]; simp; omega
 cases r with
 | nil =>
  have h3 := drop_nil hd
  have h4 : ((a.length : Int) == (b.length : Int)) = eqL [] s := by
   cases s with
   | nil => simp at hlr hls; simp [eqL]; omega
   | cons y s => simp at hlr hls; simp [eqL]; omega
  simp only [go_sem, Nat.reduceEqDiff, Nat.reduceAdd, Nat.reduceLT, Nat.reduceLeDiff, reduceIte, h0, h1, h5, encI, List.length_map, dec_ge h3]
  rw [← hq, h4]
 | cons x r =>
  obtain ⟨hk, hd2, hlt⟩ := drop_cons hd
  cases s with
  | nil =>
   have h3 := drop_nil he
   have h4 : ((a.length : Int) == (b.length : Int)) = false := by rw [beq_eq_false_iff_ne]; simp at hlr hls; omega
   simp only [go_sem, Nat.reduceEqDiff, Nat.reduceAdd, Nat.reduceLT, Nat.reduceLeDiff, reduceIte, h0, h1, h5, encI, List.length_map, dec_lt hlt, dec_ge h3, h4]
   rw [← hq]; rfl
  | cons y s =>
   obtain ⟨hk', he2, hlt'⟩ := drop_cons he
   cases hxy : (x == y)
   ·have hne : (x != y) = true := by simp [bne, hxy]
    simp only [go_sem, Nat.reduceEqDiff, Nat.reduceAdd, Nat.reduceLT, Nat.reduceLeDiff, reduceIte, h0, h1, h5, encI, List.length_map, dec_lt hlt, dec_lt hlt', dec_nn, Int.toNat_natCast, I_get, hk, hk', hne]
    rw [← hq]; simp [eqL, hxy]
   ·have hne : (x != y) = false := by simp [bne, hxy]
    simp only [go_sem, Nat.reduceEqDiff, Nat.reduceAdd, Nat.reduceLT, Nat.reduceLeDiff, reduceIte, h0, h1, h5, encI, List.length_map, dec_lt hlt, dec_lt hlt', dec_nn, Int.toNat_natCast, I_get, hk, hk', hne, wrap_n1 k (by omega)]
    refine Nx_of (k + 1, r, s) (by simp) ?_
    simp only [go_sem, Nat.reduceEqDiff, Nat.reduceAdd, Nat.reduceLT, Nat.reduceLeDiff, reduceIte, h0, h1, encI]
    exact ⟨trivial, trivial, trivial, hd2, he2, by omega, by omega, by rw [← hq]; simp [eqL, hxy]⟩
def idxF (n : Int) : List Int → Nat → Int
 | [], _ => -1
 | x :: r, k => if (n == x) = true then (k : Int) else idxF n r (k + 1)
theorem Index_ok (l : List Int) (n : Int) (hl : l.length < 1073741824) : RV ft 138 [encI l, I64 n] (I64 (idxF n l 0)) := by
 refine RV_of ft138 rfl ?_
 simp only [c138, r138]
 simp only [go_sem, Nat.reduceEqDiff, Nat.reduceAdd, Nat.reduceLT, Nat.reduceLeDiff, reduceIte, encI, List.length_map]
 refine WL_inv (α := Nat × List Int) (fun q e mm => e 0 = encI l ∧ e 1 = I64 n ∧ e 7 = I64 l.length ∧ e 8 = I64 q.1 ∧ l.drop q.1 = q.2 ∧ idxF n q.2 q.1 = idxF n l 0) (fun q => q.2.length) (0, l) ?_ ?_
 ·simp only [go_sem, Nat.reduceEqDiff, Nat.reduceAdd, Nat.reduceLT, Nat.reduceLeDiff, reduceIte, encI]
  exact ⟨trivial, trivial, trivial, rfl, trivial⟩
 rintro ⟨k, r⟩ e m ⟨h0, h1, h7, h8, hd, hq⟩
 dsimp only at h8 hd hq
 cases r with
 | nil =>
  have h3 := drop_nil hd
  simp only [go_sem, Nat.reduceEqDiff, Nat.reduceAdd, Nat.reduceLT, Nat.reduceLeDiff, reduceIte, h0, h1, h7, h8, dec_ge h3]
  rw [← hq]; rfl
 | cons x r =>
  obtain ⟨hk, hd2, hlt⟩ := drop_cons hd
  cases hx : (n == x)
  ·simp only [go_sem, Nat.reduceEqDiff, Nat.reduceAdd, Nat.reduceLT, Nat.reduceLeDiff, reduceIte, h0, h1, h7, h8, encI, List.length_map, dec_lt hlt, dec_nn, Int.toNat_natCast, I_get, hk, hx, wrap_n1 k (by omega)]
   refine Nx_of (k + 1, r) (by simp) ?_
   simp only [go_sem, Nat.reduceEqDiff, Nat.reduceAdd, Nat.reduceLT, Nat.reduceLeDiff, reduceIte, h0, h1, h7, encI]
   exact ⟨trivial, trivial, trivial, trivial, hd2, by rw [← hq]; simp [idxF, hx]⟩
  ·simp only [go_sem, Nat.reduceEqDiff, Nat.reduceAdd, Nat.reduceLT, Nat.reduceLeDiff, reduceIte, h0, h1, h7, h8, encI, List.length_map, dec_lt hlt, dec_nn, Int.toNat_natCast, I_get, hk, hx]
   rw [← hq]; simp [idxF, hx]
theorem idxF_any (n : Int) : ∀ (l : List Int) (k : Nat), decide (0 ≤ idxF n l k) = l.any (· == n)
 | [], k => rfl
 | x :: r, k => by
  unfold idxF
  by_cases h : n = x
  ·subst h; simp
  ·have h1 : (n == x) = false := by simpa using h
   have h2 : (x == n) = false := by simpa using fun e => h e.symm
   rw [h1]; simp only [Bool.false_eq_true, if_false, List.any_cons, h2, Bool.false_or]
   exact idxF_any n r (k + 1)
theorem Contains_ok (l : List Int) (n : Int) (hl : l.length < 1073741824) : RV ft 111 [encI l, I64 n] (.bool (l.any (· == n))) := by
 refine RV_of ft111 rfl ?_
 simp only [c111, r111]
 simp only [go_sem, Nat.reduceEqDiff, Nat.reduceAdd, Nat.reduceLT, Nat.reduceLeDiff, reduceIte, WB138, WVH_eq (Index_ok l n hl), true_and, idxF_any]
theorem kPdq : Srt.PdqFns ft 5 (some 5) 121 153 154 173 155 170 169 114 151 152 156 174 175 178 157 158 159 160 :=
 ⟨rfl, rfl, rfl, rfl, rfl, rfl, rfl, rfl, rfl, rfl, rfl, rfl, rfl, rfl, rfl, rfl, rfl⟩
theorem kSort : ft 83 = some ⟨2, Srt.sortFuncC 114 121, Srt.sortFuncR, .r⟩ := rfl
structure Ky where
 id : Int
 comp : Int
 devs : List Int
 fr : Int
 to : Int
 deriving DecidableEq
def encK (k : Ky) : AV := .agg [I64 k.id, I64 k.comp, encI k.devs, I64 k.fr, I64 k.to]
def kEls : Els where
 sz := 5
 lz := some 5
 D := fun x => ∃ k, x = encK k
 len := fun x ⟨k, h⟩ => by rw [h]; rfl
 sol := fun x ⟨k, h⟩ => by rw [h]; rfl
 rd := fun x ⟨k, h⟩ => by rw [h]; rfl
 wr := fun x y ⟨k, h⟩ ⟨k', h'⟩ => by rw [h, h']; rfl
theorem snK (m : Mem) (q : Nat) (k : Ky) : snap m (q + 3) (encK k) = encK k := by
 unfold encK; rw [snap_agg]
 simp only [List.map_cons, List.map_nil, snap_int, snI]
theorem hotK (q : Nat) (k : Ky) : hot (q + 3) (encK k) = false := by
 unfold encK; rw [hot_agg]
 simp only [List.any_cons, List.any_nil, hot_int, hotI, Bool.or_false, Bool.false_or]
def cmpI (x y : Int) : Int := if x < y then -1 else if y < x then 1 else 0
theorem isNaN_ok (x : Int) : RV ft 115 [I64 x] (.bool false) := by
 refine RV_of ft115 rfl ?_
 simp only [c115, r115]
 simp only [go_sem, Nat.reduceEqDiff, Nat.reduceAdd, Nat.reduceLT, Nat.reduceLeDiff, reduceIte, show (x != x) = false by simp]
theorem Compare_ok (x y : Int) : RV ft 76 [I64 x, I64 y] (I64 (cmpI x y)) := by
 refine RV_of ft76 rfl ?_
 simp only [c76, r76]
 unfold cmpI
 by_cases h1 : x < y
 ·simp only [go_sem, Nat.reduceEqDiff, Nat.reduceAdd, Nat.reduceLT, Nat.reduceLeDiff, reduceIte, WB115, WVH_eq (isNaN_ok x), WVH_eq (isNaN_ok y), true_and, show decide (x < y) = true from decide_eq_true h1, if_pos h1]
 ·by_cases h2 : y < x
  ·simp only [go_sem, Nat.reduceEqDiff, Nat.reduceAdd, Nat.reduceLT, Nat.reduceLeDiff, reduceIte, WB115, WVH_eq (isNaN_ok x), WVH_eq (isNaN_ok y), true_and, show decide (x < y) = false from decide_eq_false h1, show decide (y < x) = true from decide_eq_true h2, if_neg h1, if_pos h2]
  ·simp only [go_sem, Nat.reduceEqDiff, Nat.reduceAdd, Nat.reduceLT, Nat.reduceLeDiff, reduceIte, WB115, WVH_eq (isNaN_ok x), WVH_eq (isNaN_ok y), true_and, show decide (x < y) = false from decide_eq_false h1, show decide (y < x) = false from decide_eq_false h2, if_neg h1, if_neg h2]
attribute [go_sem] snK hotK
open Go.Sort
def frOf (x : AV) : Int := match x with | .agg [_, _, _, .int _ n, _] => n | _ => 0
theorem cmpI_lt (x y : Int) : decide (cmpI x y < 0) = decide (x < y) := by
 unfold cmpI
 by_cases h1 : x < y
 ·rw [if_pos h1, decide_eq_true h1]; rfl
 ·rw [if_neg h1, decide_eq_false h1]
  by_cases h2 : y < x
  ·rw [if_pos h2]; rfl
  ·rw [if_neg h2]; rfl
theorem byFrom_ok (k j : Ky) : RV ft 139 [encK k, encK j] (I64 (cmpI k.fr j.fr)) := by
 refine RV_of ft139 rfl ?_
 simp only [c139, r139]
 simp only [go_sem, Nat.reduceEqDiff, Nat.reduceAdd, Nat.reduceLT, Nat.reduceLeDiff, reduceIte, encK, encI, WB76, WVH_eq (Compare_ok k.fr j.fr), true_and]
def byFrom : CmpOK ft kEls (.fn 139 [] []) where
 cf := fun x y => cmpI (frOf x) (frOf y)
 ok := fun x y ⟨k, hk⟩ ⟨j, hj⟩ s K => by
  subst hk; subst hj
  rw [WAH_fn]
  simp only [List.nil_append, List.append_nil]
  rw [WB139]
  simp only [List.map_cons, List.map_nil, dep_eq, snK]
  rw [WV_eq (byFrom_ok k j)]
  simp only [List.all_cons, List.all_nil, hotK]
  exact propext ⟨fun h => h.2, fun h => ⟨rfl, h⟩⟩
theorem byFrom_lt (x y : AV) : byFrom.lt x y = decide (frOf x < frOf y) := cmpI_lt _ _
theorem swo_int {f : AV → Int} : SWO (fun x y => decide (f x < f y)) where
 irrefl := fun x => by simp
 trans := fun x y z h1 h2 => by simp at h1 h2 ⊢; omega
 ntrans := fun x y z h1 h2 => by simp at h1 h2 ⊢; omega
theorem byFrom_swo : SWO byFrom.lt := by
 have : byFrom.lt = fun x y => decide (frOf x < frOf y) := funext fun x => funext fun y => byFrom_lt x y
 rw [this]; exact swo_int
def unI (x : AV) : Int := match x with | .int _ n => n | _ => 0
def unK (x : AV) : Ky := match x with | .agg [a, b, .sl ds _, e, f] => ⟨unI a, unI b, ds.map unI, unI e, unI f⟩ | _ => ⟨0, 0, [], 0, 0⟩
theorem unK_enc (k : Ky) : unK (encK k) = k := by
 obtain ⟨a, b, ds, e, f⟩ := k
 simp only [encK, encI, unK, unI, List.map_map, Ky.mk.injEq, true_and, and_true]
 induction ds with
 | nil => rfl
 | cons x r ih => simp only [List.map_cons, ih]; rfl
theorem sortKeys_run {id : Nat} {l : List Ky} {m : Mem} (hm : m.blks[id]? = some (.live (l.map encK) 5)) (hl : l.length < 1073741824) (K : AV → Mem → Prop)
  (hK : ∀ (l' : List Ky) (m' : Mem), l'.Perm l → l'.Pairwise (fun a b => a.fr ≤ b.fr) → m'.blks[id]? = some (.live (l'.map encK) 5) → (∀ i, i < m.blks.length → i ≠ id → m'.blks[i]? = m.blks[i]?) → m.blks.length ≤ m'.blks.length → m'.toks = m.toks → K (.tup []) m') :
  WR ft (.f 83) [.ref id 0 l.length, .fn 139 [] []] m K := by
 have hid : id < m.blks.length := (List.getElem?_eq_some_iff.1 hm).1
 have hgk : ∀ i (h : i < l.length), (l.map encK).toArray[i]! = encK l[i] := fun i h => by
  rw [getElem!_pos _ i (by simpa using h)]; simp
 have hD : AllD kEls (l.map encK).toArray := fun i hi => ⟨l[i]'(by simpa using hi), hgk i (by simpa using hi)⟩
 have h00 : MR m m id 5 (l.map encK).toArray := MR.refl (by simpa using hm)
 refine Srt.sortFunc_run (E := kEls) byFrom kSort kPdq byFrom_swo hl hid (d := (l.map encK).toArray) (by simp) hD h00 K fun d' m' h1 h2 h3 => ?_
 have hsz : d'.size = l.length := by rw [h2.1]; simp
 have hperm : d'.toList.Perm (l.map encK) := by
  have := h2.2.2
  rw [show d'.extract 0 l.length = d' by rw [← hsz]; simp, show (l.map encK).toArray.extract 0 l.length = (l.map encK).toArray by simp [List.take_of_length_le]] at this
  simpa using this
 obtain ⟨l', hl', hp⟩ : ∃ l' : List Ky, d'.toList = l'.map encK ∧ l'.Perm l := by
  have key : ∀ (xs : List AV) (ys : List Ky), xs.Perm (ys.map encK) → ∃ zs : List Ky, xs = zs.map encK ∧ zs.Perm ys := by
   intro xs ys h
   have hmem : ∀ x ∈ xs, ∃ y, encK y = x := fun x hx => by
    obtain ⟨y, _, hy⟩ := List.mem_map.1 (h.mem_iff.1 hx); exact ⟨y, hy⟩
   have hex : ∃ zs : List Ky, xs = zs.map encK := by
    clear h
    induction xs with
    | nil => exact ⟨[], rfl⟩
    | cons x xs ih =>
     obtain ⟨y, hy⟩ := hmem x (by simp)
     obtain ⟨zs, hz⟩ := ih fun x hx => hmem x (by simp [hx])
     exact ⟨y :: zs, by simp [hy, hz]⟩
   obtain ⟨zs, rfl⟩ := hex
   refine ⟨zs, rfl, ?_⟩
   have := h.map unK
   rw [List.map_map, List.map_map, show unK ∘ encK = fun k => k from funext unK_enc] at this
   simpa using this
  exact key _ _ hperm
 have hsz' : l'.length = l.length := hp.length_eq
 refine hK l' m' hp ?_ (by have := h1.blk; rw [hl'] at this; exact this) h1.old h1.len h1.toks
 rw [List.pairwise_iff_getElem]
 intro i j hi hj hij
 have hs := h3 i j (by omega) hij (by omega)
 have gi : d'[i]! = encK l'[i] := by
  have := get_bang (d := d') (i := i) (by omega)
  rw [hl', List.getElem?_map, List.getElem?_eq_getElem hi] at this
  simp only [Option.map_some, Option.some.injEq] at this
  exact this.symm
 have gj : d'[j]! = encK l'[j] := by
  have := get_bang (d := d') (i := j) (by omega)
  rw [hl', List.getElem?_map, List.getElem?_eq_getElem hj] at this
  simp only [Option.map_some, Option.some.injEq] at this
  exact this.symm
 rw [byFrom_lt, gi, gj] at hs
 have hs := of_decide_eq_false hs
 simp only [frOf, encK] at hs
 omega
def encKs (l : List Ky) : AV := .sl (l.map encK) .unk
theorem K_get (l : List Ky) (k : Nat) : (l.map encK)[k]? = l[k]?.map encK := List.getElem?_map
theorem vals_prod {id : Nat} {l : List Ky} {J : Nat → Mem → Prop} (hl : l.length < 1073741824)
  (hnew : ∀ k blks toks b, J k ⟨blks, toks⟩ → J k ⟨blks ++ [b], toks⟩)
  (hy : ∀ k m K' x, l[k]? = some x → J k m → (∀ m', J (k + 1) m' → K' (.bool true) m') → WR ft (.y id) [encK x] m K')
  (m : Mem) (h0 : J 0 m) (K : AV → Mem → Prop) (hK : ∀ m, J l.length m → K (.tup []) m) : WR ft (.f 167) [.yld id, .pv (encKs l) 0] m K := by
 rw [WR_f ft167 rfl]
 simp only [c167, r167]
 simp only [go_sem, Nat.reduceEqDiff, Nat.reduceAdd, Nat.reduceLT, Nat.reduceLeDiff, reduceIte, encKs, List.length_map]
 refine WL_inv (α := Nat) (fun k e m => e 0 = .yld id ∧ e 5 = encKs l ∧ e 6 = I64 l.length ∧ e 7 = I64 k ∧ k ≤ l.length ∧ J k m) (fun k => l.length - k) 0 ?_ ?_
 ·simp only [go_sem, Nat.reduceEqDiff, Nat.reduceAdd, Nat.reduceLT, Nat.reduceLeDiff, reduceIte, encKs]
  exact ⟨trivial, trivial, trivial, rfl, by omega, h0⟩
 rintro k e ⟨blks, toks⟩ ⟨g0, g5, g6, g7, hk, hj⟩
 by_cases hkl : k < l.length
 case neg =>
  have : k = l.length := by omega
  subst this
  simp only [go_sem, Nat.reduceEqDiff, Nat.reduceAdd, Nat.reduceLT, Nat.reduceLeDiff, reduceIte, g0, g5, g6, g7, show decide ((l.length : Int) < (l.length : Int)) = false from decide_eq_false (by omega)]
  exact hK _ hj
 obtain ⟨x, hx⟩ : ∃ x, l[k]? = some x := ⟨l[k], by simp [hkl]⟩
 have hj2 := hnew k blks toks (.live [encK x] 5) hj
 have hc : (encK x).cells = [I64 x.id, I64 x.comp, encI x.devs, I64 x.fr, I64 x.to] := rfl
 have hcz : (encI x.devs).solid = true := rfl
 have hee : AV.agg [I64 x.id, I64 x.comp, encI x.devs, I64 x.fr, I64 x.to] = encK x := rfl
 simp only [go_sem, Nat.reduceEqDiff, Nat.reduceAdd, Nat.reduceLT, Nat.reduceLeDiff, reduceIte, g0, g5, g6, g7, encKs, dec_lt hkl, dec_nn, Int.toNat_natCast, K_get, hx, hc, hcz, hee]
 refine hy k _ _ x hx hj2 fun m' hj' => ?_
 simp only [go_sem, Nat.reduceEqDiff, Nat.reduceAdd, Nat.reduceLT, Nat.reduceLeDiff, reduceIte, g0, g5, g6, g7, wrap_n1 k (by omega)]
 refine Nx_of (k + 1) (by first | omega | (dsimp only; omega)) ?_
 simp only [go_sem, Nat.reduceEqDiff, Nat.reduceAdd, Nat.reduceLT, Nat.reduceLeDiff, reduceIte, g0, g5, g6, encKs]
 exact ⟨trivial, trivial, trivial, trivial, by omega, hj'⟩
def asg176 : ACode := .region [⟨(some 5), none, .new (.agg [(.int .i64 0), (.int .i64 0), (.sl [] .tight), (.int .i64 0), (.int .i64 0)]) 5⟩,
  ⟨none, none, .store (.t 5) (.t 7) 5⟩]
def body176 : ACode := .block 1 (.region [⟨(some 8), none, .load (.t 2) none⟩,
  ⟨(some 9), none, .load (.t 5) (some 5)⟩,
  ⟨(some 10), none, .lit true 37 5 [(.t 9)]⟩,
  ⟨(some 11), none, .app true (.t 8) (.t 10) 37 5 56⟩,
  ⟨none, none, .store (.t 2) (.t 11) 1⟩])
def Gath (l : List Ky) (k : Nat) (v : AV) (blks : List Blk) : Prop :=
 (k = 0 ∧ v = .sl [] .tight) ∨ (0 < k ∧ ∃ id, 2 ≤ id ∧ v = .ref id 0 k ∧ blks[id]? = some (.live ((l.take k).map encK) 5))
def GJ (l : List Ky) (k : Nat) (m : Mem) : Prop :=
 m.toks = [] ∧ ∃ v env, Gath l k v m.blks ∧ m.blks[0]? = some (.live [v] 1) ∧ v.cells = [v] ∧ v.solid = true ∧ v.isAgg = false ∧ env 2 = .ptr 0 0 0 ∧ m.blks[1]? = some (.lp env [7] asg176 body176 true none)
theorem Gath.push {l : List Ky} {k : Nat} {v : AV} {blks : List Blk} (h : Gath l k v blks) (b : Blk) : Gath l k v (blks ++ [b]) := by
 rcases h with h | ⟨h1, id, h2, h3, h4⟩
 ·exact .inl h
 ·exact .inr ⟨h1, id, h2, h3, by rw [List.getElem?_append_left (List.getElem?_eq_some_iff.1 h4).1]; exact h4⟩
theorem GJ.push {l : List Ky} {k : Nat} {blks : List Blk} {toks : List (Nat × Nat)} (h : GJ l k ⟨blks, toks⟩) (b : Blk) : GJ l k ⟨blks ++ [b], toks⟩ := by
 obtain ⟨h1, v, env, h2, h3, h4, h5, h6, h7, h8⟩ := h
 refine ⟨h1, v, env, h2.push b, ?_, h4, h5, h6, h7, ?_⟩
 ·show (blks ++ [b])[0]? = _; rw [List.getElem?_append_left (List.getElem?_eq_some_iff.1 h3).1]; exact h3
 ·show (blks ++ [b])[1]? = _; rw [List.getElem?_append_left (List.getElem?_eq_some_iff.1 h8).1]; exact h8
theorem gath_app {l : List Ky} {k : Nat} {v : AV} {blks : List Blk} (h : Gath l k v blks) {x : Ky} (hx : l[k]? = some x) (hl : l.length < 1073741824) {id2 : Nat} (hb : blks[id2]? = some (.live [encK x] 5)) (hlen : 2 ≤ blks.length)
  (hne : ∀ id, v = .ref id 0 k → id ≠ id2) : ∃ v' m', appendAt ⟨blks, []⟩ true v (.ref id2 0 1) 37 5 56 = some (v', m') ∧ m'.toks = [] ∧ Gath l (k + 1) v' m'.blks ∧ v'.cells = [v'] ∧ v'.solid = true ∧ v'.isAgg = false ∧ blks.length ≤ m'.blks.length ∧ ∀ i, i < 2 → m'.blks[i]? = blks[i]? := by
 have hk : k < l.length := (List.getElem?_eq_some_iff.1 hx).1
 have hel : (⟨blks, []⟩ : Mem).elems (.ref id2 0 1) = some [encK x] := by simp [Mem.elems, hb]
 have hh : hdSz [encK x] 5 = true := rfl
 have htk : (l.take (k + 1)).map encK = (l.take k).map encK ++ [encK x] := by
  have : l.take (k + 1) = l.take k ++ [x] := by rw [List.take_add_one, hx]; rfl
  rw [this]; simp
 rcases h with ⟨rfl, rfl⟩ | ⟨h1, id, h2, rfl, h4⟩
 ·refine ⟨.ref blks.length 0 1, ⟨blks ++ [.live [encK x] 5], []⟩, ?_, rfl, .inr ⟨by omega, blks.length, hlen, rfl, ?_⟩, rfl, rfl, rfl, by simp, fun i hi => ?_⟩
  ·simp only [appendAt, hel, hh]
   rw [if_neg (by simp), if_pos ⟨by simp [limit], rfl⟩]
   simp [newBlk]
  ·simp [htk]
  ·simp only; rw [List.getElem?_append_left (by omega)]
 ·have hlk : ((l.take k).map encK).length = k := by simp; omega
  refine ⟨.ref blks.length 0 (k + 1), ⟨blks.set id .dead ++ [.live ((l.take k).map encK ++ [encK x]) 5], []⟩, ?_, rfl, .inr ⟨by omega, blks.length, hlen, rfl, ?_⟩, rfl, rfl, rfl, by simp, fun i hi => ?_⟩
  ·simp only [appendAt, hel, hh, h4]
   rw [if_neg (by simp), if_neg (by simp), if_neg (by simp [hlk]; omega), if_pos ⟨⟨trivial, hlk.symm⟩, by rw [hlk]; simp only [List.length_cons, List.length_nil, limit]; omega⟩]
   simp
  ·rw [htk]; simp
  ·simp only
   rw [List.getElem?_append_left (by simp; omega), List.getElem?_set_ne (by omega)]
theorem appendSeq_ok (l : List Ky) (hl : l.length < 1073741824) (K : AV → Mem → Prop) (hK : ∀ v m, Gath l l.length v m.blks → m.toks = [] → K v m) : WR ft (.f 176) [.sl [] .tight, .fn 167 [] [.pv (encKs l) 0]] ⟨[], []⟩ K := by
 rw [WR_f ft176 rfl]
 simp only [c176, r176]
 simp only [go_sem, Nat.reduceEqDiff, Nat.reduceAdd, Nat.reduceLT, Nat.reduceLeDiff, reduceIte]
 refine WL_range_of (g := 167) (first := []) (cap := [.pv (encKs l) 0]) rfl ?_
 simp only [go_sem, Nat.reduceEqDiff, Nat.reduceAdd, Nat.reduceLT, Nat.reduceLeDiff, reduceIte]
 refine vals_prod (J := GJ l) hl (fun k blks toks b h => h.push b) ?_ _ ?_ _ ?_
 ·rintro k ⟨bl, toks⟩ K' x hx ⟨ht, v, env, hg, hb0, hv1, hv2, hv3, he2, hlp⟩ hk'
  dsimp only at ht hg hb0 hlp
  subst ht
  have h1 : 1 < bl.length := (List.getElem?_eq_some_iff.1 hlp).1
  refine WR_yld hlp rfl ?_
  have hc : (encK x).cells = [I64 x.id, I64 x.comp, encI x.devs, I64 x.fr, I64 x.to] := rfl
  have hcz : (encI x.devs).solid = true := rfl
  have hee : AV.agg [I64 x.id, I64 x.comp, encI x.devs, I64 x.fr, I64 x.to] = encK x := rfl
  simp only [go_sem, Nat.reduceEqDiff, Nat.reduceAdd, Nat.reduceLT, Nat.reduceLeDiff, reduceIte, asg176, puts, he2, hc, hcz, hee]
  have hlp2 : (bl ++ [Blk.live [encK x] 5])[1]? = some (.lp env [7] asg176 body176 true none) := by rw [List.getElem?_append_left h1]; exact hlp
  refine YBegin_lp hlp2 ?_
  dsimp only
  obtain ⟨b2, hb2⟩ : ∃ b2, b2 = (bl ++ [Blk.live [encK x] 5]).set 1 (.lp env [7] asg176 body176 false none) := ⟨_, rfl⟩
  rw [← hb2]
  have hl2 : b2.length = bl.length + 1 := by rw [hb2]; simp
  have q0 : b2[0]? = some (.live [v] 1) := by rw [hb2, List.getElem?_set_ne (by omega), List.getElem?_append_left (by omega)]; exact hb0
  have q1 : b2[1]? = some (.lp env [7] asg176 body176 false none) := by rw [hb2, List.getElem?_set_self (by simp; omega)]
  have qx : b2[bl.length]? = some (.live [encK x] 5) := by rw [hb2, List.getElem?_set_ne (by omega)]; simp
  have hg2 : Gath l k v b2 := by
   rcases hg with h | ⟨a1, id, a2, a3, a4⟩
   ·exact .inl h
   ·refine .inr ⟨a1, id, a2, a3, ?_⟩
    rw [hb2, List.getElem?_set_ne (by omega), List.getElem?_append_left (List.getElem?_eq_some_iff.1 a4).1]; exact a4
  have hg3 := hg2.push (.live [encK x] 5)
  have q0' : (b2 ++ [Blk.live [encK x] 5])[0]? = some (.live [v] 1) := by rw [List.getElem?_append_left (by omega)]; exact q0
  have q1' : (b2 ++ [Blk.live [encK x] 5])[1]? = some (.lp env [7] asg176 body176 false none) := by rw [List.getElem?_append_left (by omega)]; exact q1
  obtain ⟨v', m', e1, e2, e3, e4, e5, e6, e7, e8⟩ := gath_app hg3 hx hl (id2 := b2.length) (by simp) (by simp; omega) (fun id hid => by
   rcases hg2 with ⟨_, h⟩ | ⟨_, id', _, h3, h4⟩
   ·rw [h] at hid; cases hid
   ·rw [h3] at hid; cases hid
    have := (List.getElem?_eq_some_iff.1 h4).1; omega)
  obtain ⟨b3, t3⟩ := m'
  dsimp only at e2 e3 e7 e8
  subst e2
  have r0 : b3[0]? = some (.live [v] 1) := (e8 0 (by omega)).trans q0'
  have r1 : b3[1]? = some (.lp env [7] asg176 body176 false none) := (e8 1 (by omega)).trans q1'
  have hv4 : writeCells v 0 [v'] = some v' := writeCells_one v v' hv3
  simp only [go_sem, Nat.reduceEqDiff, Nat.reduceAdd, Nat.reduceLT, Nat.reduceLeDiff, reduceIte, body176, he2, q0, qx, hv1, hc, hcz, hee, e1, r0, e4, e5, hv4]
  refine YEnd_lp (env := env) (ps := [7]) (asg := asg176) (body' := body176) (r := false) (p := none) (by simp only; rw [List.getElem?_set_ne (by omega)]; exact r1) ?_
  refine hk' _ ⟨rfl, v', env, ?_, ?_, e4, e5, e6, he2, ?_⟩
  ·rcases e3 with ⟨h, _⟩ | ⟨a1, id, a2, a3, a4⟩
   ·omega
   ·refine .inr ⟨a1, id, a2, a3, ?_⟩
    simp only
    rw [List.getElem?_set_ne (by omega), List.getElem?_set_ne (by omega)]; exact a4
  ·simp only
   rw [List.getElem?_set_ne (by omega), List.getElem?_set_self (by have := (List.getElem?_eq_some_iff.1 r0).1; exact this)]
  ·simp only
   rw [List.getElem?_set_self (by simp; exact (List.getElem?_eq_some_iff.1 r1).1)]
 ·refine ⟨rfl, .sl [] .tight, _, .inl ⟨rfl, rfl⟩, rfl, rfl, rfl, rfl, ?_, rfl⟩
  simp only [go_sem, Nat.reduceEqDiff, Nat.reduceAdd, Nat.reduceLT, Nat.reduceLeDiff, reduceIte]
 ·rintro ⟨bl, toks⟩ ⟨ht, v, env, hg, hb0, hv1, hv2, hv3, he2, hlp⟩
  dsimp only at ht hg hb0 hlp
  subst ht
  refine RgEnd_lp hlp ?_
  have q0 : (bl.set 1 Blk.dead)[0]? = some (.live [v] 1) := by rw [List.getElem?_set_ne (by omega)]; exact hb0
  simp only [go_sem, Nat.reduceEqDiff, Nat.reduceAdd, Nat.reduceLT, Nat.reduceLeDiff, reduceIte, q0, hv1]
  refine hK v _ ?_ rfl
  rcases hg with h | ⟨a1, id, a2, a3, a4⟩
  ·exact .inl h
  ·exact .inr ⟨a1, id, a2, a3, by simp only; rw [List.getElem?_set_ne (by omega)]; exact a4⟩
theorem RV_ex {α : Type} {f : FuncId} {as : List AV} {P : α → Prop} {g : α → AV} (h : WR ft (.f f) as .nil fun v m => ∃ x, P x ∧ snap m dep v = g x) : ∃ x, P x ∧ RV ft f as (g x) := by
 obtain ⟨n, p, h1, x, h2, h3⟩ := h
 exact ⟨x, h2, n, by unfold callV; rw [h1]; simp [h3]⟩
theorem snKs (m : Mem) (q : Nat) (l : List Ky) : snap m (q + 4) (encKs l) = encKs l := by
 unfold encKs; rw [snap_sl, List.map_map]; congr 1
 exact List.map_congr_left fun k _ => snK m q k
theorem sortedFunc_ok (l : List Ky) (hl : l.length < 1073741824) : ∃ l' : List Ky, (l'.Perm l ∧ l'.Pairwise fun a b => a.fr ≤ b.fr) ∧ RV ft 140 [.fn 167 [] [.pv (encKs l) 0], .fn 139 [] []] (encKs l') := by
 refine RV_ex (P := fun l' : List Ky => l'.Perm l ∧ l'.Pairwise fun a b => a.fr ≤ b.fr) ?_
 rw [WR_f ft140 rfl]
 simp only [c140, r140]
 simp only [go_sem, Nat.reduceEqDiff, Nat.reduceAdd, Nat.reduceLT, Nat.reduceLeDiff, reduceIte, WB166]
 show WR ft (.f 166) _ _ _
 rw [WR_f ft166 rfl]
 simp only [c166, r166]
 simp only [go_sem, Nat.reduceEqDiff, Nat.reduceAdd, Nat.reduceLT, Nat.reduceLeDiff, reduceIte, WB176]
 refine appendSeq_ok l hl _ fun v m hg ht => ?_
 rcases hg with ⟨h0, rfl⟩ | ⟨h0, id, h2, rfl, h4⟩
 ·have : l = [] := List.eq_nil_of_length_eq_zero h0
  subst this
  simp only [go_sem, Nat.reduceEqDiff, Nat.reduceAdd, Nat.reduceLT, Nat.reduceLeDiff, reduceIte, WB83]
  refine Srt.sortFunc_nil kSort kPdq _ _ ?_
  simp only [go_sem, Nat.reduceEqDiff, Nat.reduceAdd, Nat.reduceLT, Nat.reduceLeDiff, reduceIte]
  exact ⟨[], ⟨List.Perm.refl _, List.Pairwise.nil⟩, rfl⟩
 ·simp only [go_sem, Nat.reduceEqDiff, Nat.reduceAdd, Nat.reduceLT, Nat.reduceLeDiff, reduceIte, WB83]
  rw [List.take_length] at h4
  refine sortKeys_run (id := id) (l := l) h4 hl _ fun l' m' p1 p2 p3 p4 p5 p6 => ?_
  simp only [go_sem, Nat.reduceEqDiff, Nat.reduceAdd, Nat.reduceLT, Nat.reduceLeDiff, reduceIte]
  refine ⟨l', ⟨p1, p2⟩, ?_⟩
  have hlen : (l'.map encK).length = l.length := by simp [p1.length_eq]
  simp only [dep_eq, snap_ref, elems_ref, p3, elBlk_live]
  rw [if_pos (by omega), List.drop_zero, ← hlen, List.take_length]
  simp only [snEs_some]
  unfold encKs
  congr 1
  rw [List.map_map]
  exact List.map_congr_left fun k _ => snK m' 5 k
attribute [go_sem] snKs
theorem Values_ok (l : List Ky) : RV ft 141 [encKs l] (.fn 167 [] [.pv (encKs l) 0]) := by
 refine RV_of ft141 rfl ?_
 simp only [c141, r141]
 have h1 : (encKs l).cells = [encKs l] := rfl
 have h2 : (encKs l).solid = true := rfl
 simp only [go_sem, Nat.reduceEqDiff, Nat.reduceAdd, Nat.reduceLT, Nat.reduceLeDiff, reduceIte, h1, h2]
structure Sp where
 lo : Int
 hi : Int
 deriving DecidableEq
def encSp (s : Sp) : AV := .agg [I64 s.lo, I64 s.hi]
def encSs (l : List Sp) : AV := .sl (l.map encSp) .unk
def stepS (acc : List Sp) (k : Ky) : List Sp :=
 match acc.getLast? with
 | some s => if k.fr ≤ s.hi + 1 then acc.dropLast ++ [⟨s.lo, max s.hi k.to⟩] else acc ++ [⟨k.fr, k.to⟩]
 | none => [⟨k.fr, k.to⟩]
def GS (acc : List Sp) (v : AV) (blks : List Blk) : Prop :=
 (acc = [] ∧ v = .sl [] .tight) ∨ (acc ≠ [] ∧ ∃ id, v = .ref id 0 acc.length ∧ blks[id]? = some (.live (acc.map encSp) 2))
theorem GS.push {acc : List Sp} {v : AV} {blks : List Blk} (h : GS acc v blks) (b : Blk) : GS acc v (blks ++ [b]) := by
 rcases h with h | ⟨h1, id, h2, h3⟩
 ·exact .inl h
 ·exact .inr ⟨h1, id, h2, by rw [List.getElem?_append_left (List.getElem?_eq_some_iff.1 h3).1]; exact h3⟩
theorem gs_app {acc : List Sp} {v : AV} {blks : List Blk} (h : GS acc v blks) (x : Sp) (hl : acc.length < 1073741824) {id2 : Nat} (hb : blks[id2]? = some (.live [encSp x] 2)) :
  ∃ v' m', appendAt ⟨blks, []⟩ true v (.ref id2 0 1) 60 2 16 = some (v', m') ∧ m'.toks = [] ∧ GS (acc ++ [x]) v' m'.blks := by
 have hel : (⟨blks, []⟩ : Mem).elems (.ref id2 0 1) = some [encSp x] := by simp [Mem.elems, hb]
 have hh : hdSz [encSp x] 2 = true := rfl
 rcases h with ⟨rfl, rfl⟩ | ⟨h1, id, rfl, h4⟩
 ·refine ⟨.ref blks.length 0 1, ⟨blks ++ [.live [encSp x] 2], []⟩, ?_, rfl, .inr ⟨by simp, blks.length, rfl, by simp⟩⟩
  simp only [appendAt, hel, hh]
  rw [if_neg (by simp), if_pos ⟨by simp [limit], rfl⟩]
  simp [newBlk]
 ·have hlk : (acc.map encSp).length = acc.length := by simp
  refine ⟨.ref blks.length 0 (acc.length + 1), ⟨blks.set id .dead ++ [.live (acc.map encSp ++ [encSp x]) 2], []⟩, ?_, rfl, .inr ⟨by simp, blks.length, by simp, by simp⟩⟩
  simp only [appendAt, hel, hh, h4]
  rw [if_neg (by simp), if_neg (by simp), if_neg (by simp), if_pos ⟨⟨trivial, hlk.symm⟩, by rw [hlk]; simp only [List.length_cons, List.length_nil, limit]; omega⟩]
  simp
theorem Ss_snap (acc : List Sp) (v : AV) (m : Mem) (h : GS acc v m.blks) (q : Nat) : snap m (q + 3) v = encSs acc := by
 have hs : ∀ s : Sp, snap m (q + 2) (encSp s) = encSp s := fun s => rfl
 rcases h with ⟨rfl, rfl⟩ | ⟨h1, id, rfl, h4⟩
 ·rfl
 ·have hlk : (acc.map encSp).length = acc.length := by simp
  simp only [snap_ref, elems_ref, h4, elBlk_live]
  rw [if_pos (by omega), List.drop_zero, ← hlk, List.take_length]
  simp only [snEs_some]
  unfold encSs
  rw [List.map_map]
  congr 1
theorem wrap_p1' (n : Nat) (h : n < 4611686018427387904) : IntKind.i64.wrap (((n + 1 : Nat) : Int) - 1) = (n : Int) := by rw [wrap_i64 _ (by omega) (by omega)]; omega
structure Pl where
 id : Int
 film : Int
 tongue : Int
 subs : Int
 mins : Int
 locked : Bool
 assets : List Int
 devs : List Int
 miss : List Int
 keys : List Ky
 opening : List Ky
 opn : List Sp
def encP (p : Pl) : AV := .agg [I64 p.id, I64 p.film, I64 p.tongue, I64 p.subs, I64 p.mins, .bool p.locked, encI p.assets, encI p.devs, encI p.miss, encKs p.keys, encKs p.opening, encSs p.opn]
def SpB (s : Sp) : Prop := 0 ≤ s.hi ∧ s.hi ≤ 9999
def KyB (k : Ky) : Prop := 0 ≤ k.fr ∧ k.fr ≤ k.to ∧ k.to ≤ 9999
theorem stepS_last (acc : List Sp) (s : Sp) (k : Ky) : stepS (acc ++ [s]) k = if k.fr ≤ s.hi + 1 then acc ++ [⟨s.lo, max s.hi k.to⟩] else (acc ++ [s]) ++ [⟨k.fr, k.to⟩] := by
 unfold stepS; simp
theorem Sp_get (l : List Sp) (s : Sp) : ((l ++ [s]).map encSp)[l.length]? = some (encSp s) := by simp
theorem Sp_set (l : List Sp) (s t : Sp) : ((l ++ [s]).map encSp).set l.length (encSp t) = (l ++ [t]).map encSp := by simp
theorem openMinutes_ok (p : Pl) (l' : List Ky) (hl : l'.length < 1073741824) (hB : ∀ k ∈ l', KyB k) (hS : RV ft 140 [.fn 167 [] [.pv (encKs p.opening) 0], .fn 139 [] []] (encKs l')) :
  RV ft 112 [encP p] (if p.locked then encSs (l'.foldl stepS []) else encSs [⟨0, 9999⟩]) := by
 refine RV_of ft112 rfl ?_
 simp only [c112, r112]
 have s1 : (encI p.assets).solid = true := rfl
 have s2 : (encI p.devs).solid = true := rfl
 have s3 : (encI p.miss).solid = true := rfl
 have s4 : (encKs p.keys).solid = true := rfl
 have s5 : (encKs p.opening).solid = true := rfl
 have s6 : (encSs p.opn).solid = true := rfl
 cases hlk : p.locked
 ·simp only [go_sem, Nat.reduceEqDiff, Nat.reduceAdd, Nat.reduceLT, Nat.reduceLeDiff, reduceIte, encP, hlk, s1, s2, s3, s4, s5, s6]
  rfl
 have hh : hot 9 (encKs p.opening) = false := by
  unfold encKs; rw [hot_sl, List.any_map]
  exact List.any_eq_false.2 fun k _ => by simp only [Function.comp]; rw [hotK]; simp
 have hh8 : hot 7 (encKs p.opening) = false := by
  unfold encKs; rw [hot_sl, List.any_map]
  exact List.any_eq_false.2 fun k _ => by simp only [Function.comp]; rw [hotK]; simp
 have hlen : ∀ m : Mem, lenAt m (encKs l') = some (I64 (l'.length : Int)) := fun m => by simp [encKs, lenAt]
 simp only [go_sem, Nat.reduceEqDiff, Nat.reduceAdd, Nat.reduceLT, Nat.reduceLeDiff, reduceIte, encP, hlk, s1, s2, s3, s4, s5, s6, WB141, hh, hh8, WVH_eq (Values_ok p.opening), true_and, WB140, WVH_eq hS, hlen]
 refine WL_inv (α := Nat × List Ky × List Sp) (fun q e mm => e 18 = encKs l' ∧ e 19 = I64 l'.length ∧ e 20 = I64 q.1 ∧ l'.drop q.1 = q.2.1 ∧ q.2.1.foldl stepS q.2.2 = l'.foldl stepS [] ∧ mm.toks = [] ∧ GS q.2.2 (e 4) mm.blks ∧ (∀ s ∈ q.2.2, SpB s) ∧ q.2.2.length ≤ q.1) (fun q => q.2.1.length) (0, l', []) ?_ ?_
 ·simp only [go_sem, Nat.reduceEqDiff, Nat.reduceAdd, Nat.reduceLT, Nat.reduceLeDiff, reduceIte]
  exact ⟨trivial, trivial, rfl, trivial, trivial, trivial, .inl ⟨rfl, rfl⟩, (fun s hs => by cases hs), trivial⟩
 rintro ⟨i, r, acc⟩ e ⟨bl, toks⟩ ⟨h18, h19, h20, hd, hf, ht, hg, hsb, hai⟩
 dsimp only at h20 hd hf ht hg hsb hai
 subst ht
 cases r with
 | nil =>
  have h3 := drop_nil hd
  simp only [go_sem, Nat.reduceEqDiff, Nat.reduceAdd, Nat.reduceLT, Nat.reduceLeDiff, reduceIte, h18, h19, h20, dec_ge h3]
  rw [← hf]
  exact Ss_snap acc _ _ hg 6
 | cons x r =>
  obtain ⟨hk, hd2, hlt⟩ := drop_cons hd
  have hx : KyB x := hB x (List.mem_of_getElem? hk)
  have hc : (encK x).cells = [I64 x.id, I64 x.comp, encI x.devs, I64 x.fr, I64 x.to] := rfl
  have hcz : (encI x.devs).solid = true := rfl
  have hee : AV.agg [I64 x.id, I64 x.comp, encI x.devs, I64 x.fr, I64 x.to] = encK x := rfl
  have hix : ∀ m : Mem, idxAt m (encKs l') (I64 (i : Int)) 5 = some (.pv (encK x) 0) := fun m => by
   unfold encKs
   rw [idxAt_sl, if_pos (by omega), Int.toNat_natCast, K_get, hk]
   rfl
  have hg2 := hg.push (.live [encK x] 5)
  generalize hv : e 4 = v at hg hg2
  have app := fun (acc' : List Sp) (bl' : List Blk) (hg' : GS acc' v bl') (hl' : acc'.length < 1073741824) => gs_app (hg'.push (.live [encSp ⟨x.fr, x.to⟩] 2)) ⟨x.fr, x.to⟩ hl' (id2 := bl'.length) (by simp)
  have hsp : ∀ a b : Int, AV.agg [I64 a, I64 b] = encSp ⟨a, b⟩ := fun _ _ => rfl
  have hcs : ∀ s : Sp, (encSp s).cells = [I64 s.lo, I64 s.hi] := fun _ => rfl
  rcases (show acc = [] ∨ ∃ a s, acc = a ++ [s] by rcases List.eq_nil_or_concat acc with h | ⟨a, s, h⟩; exact .inl h; exact .inr ⟨a, s, by rw [h]; simp⟩) with rfl | ⟨acc', s, rfl⟩
  ·rcases hg with ⟨_, rfl⟩ | ⟨h, _⟩
   case inr => exact absurd rfl h
   obtain ⟨v', m', e1, e2, e3⟩ := app [] _ hg2 (by simp)
   obtain ⟨b3, t3⟩ := m'
   dsimp only at e2 e3
   subst e2
   simp only [go_sem, Nat.reduceEqDiff, Nat.reduceAdd, Nat.reduceLT, Nat.reduceLeDiff, reduceIte, h18, h19, h20, dec_lt hlt, hix, hc, hcz, hee, hv, show IntKind.i64.wrap (((([] : List AV).length : Nat) : Int) - 1) = -1 from rfl, show IntKind.i64.wrap (((0 : Nat) : Int) - 1) = -1 from rfl, show decide ((0 : Int) ≤ -1) = false from rfl, hsp, hcs, e1, wrap_n1 i (by omega)]
   refine Nx_of (i + 1, r, [⟨x.fr, x.to⟩]) (by simp) ?_
   simp only [go_sem, Nat.reduceEqDiff, Nat.reduceAdd, Nat.reduceLT, Nat.reduceLeDiff, reduceIte, h18, h19]
   refine ⟨trivial, trivial, trivial, hd2, hf, trivial, e3, ?_, by simp⟩
   intro s hs
   obtain rfl := List.mem_singleton.1 hs
   exact ⟨by have := hx.1; have := hx.2.1; show 0 ≤ x.to; omega, hx.2.2⟩
  ·rcases hg with ⟨h, _⟩ | ⟨_, id, rfl, h4⟩
   ·simp at h
   have hsB : SpB s := hsb s (by simp)
   have hnl : (acc' ++ [s]).length = acc'.length + 1 := by simp
   rw [hnl] at hai
   have hid : id < bl.length := (List.getElem?_eq_some_iff.1 h4).1
   have h4' : (bl ++ [Blk.live [encK x] 5])[id]? = some (.live ((acc' ++ [s]).map encSp) 2) := by rw [List.getElem?_append_left hid]; exact h4
   have wn : IntKind.i64.wrap ((((acc' ++ [s]).length : Nat) : Int) - 1) = (acc'.length : Int) := by rw [hnl]; exact wrap_p1' acc'.length (by omega)
   have wh : IntKind.i64.wrap (s.hi + 1) = s.hi + 1 := wrap_i64 _ (by have := hsB.1; omega) (by have := hsB.2; omega)
   have ix : idxAt ⟨bl ++ [Blk.live [encK x] 5], []⟩ (.ref id 0 (acc' ++ [s]).length) (I64 (acc'.length : Int)) 2 = some (.ptr id acc'.length 0) := by
    rw [idxAt_ref, if_pos ⟨⟨by omega, by rw [hnl]; omega⟩, by rw [lsz_eq, h4']; rfl⟩, Int.toNat_natCast, Nat.zero_add]
   have hwr : ∀ t : Int, writeCells (encSp s) 1 [I64 t] = some (encSp ⟨s.lo, t⟩) := fun _ => rfl
   cases hle : decide (x.fr ≤ s.hi + 1)
   ·obtain ⟨v', m', e1, e2, e3⟩ := app (acc' ++ [s]) _ hg2 (by rw [hnl]; omega)
    obtain ⟨b3, t3⟩ := m'
    dsimp only at e2 e3
    subst e2
    simp only [go_sem, Nat.reduceEqDiff, Nat.reduceAdd, Nat.reduceLT, Nat.reduceLeDiff, reduceIte, h18, h19, h20, dec_lt hlt, hix, hc, hcz, hee, hv, h4', wn, dec_nn, ix, Nat.zero_add, Sp_get, hcs, wh, hle, hsp, e1, wrap_n1 i (by omega)]
    refine Nx_of (i + 1, r, (acc' ++ [s]) ++ [⟨x.fr, x.to⟩]) (by simp) ?_
    simp only [go_sem, Nat.reduceEqDiff, Nat.reduceAdd, Nat.reduceLT, Nat.reduceLeDiff, reduceIte, h18, h19]
    refine ⟨trivial, trivial, trivial, hd2, ?_, trivial, e3, ?_, by simp; omega⟩
    ·rw [← hf]; simp only [List.foldl_cons]; rw [stepS_last, if_neg (of_decide_eq_false hle)]
    ·intro t hts
     rcases List.mem_append.1 hts with h | h
     ·exact hsb t h
     ·obtain rfl := List.mem_singleton.1 h
      exact ⟨by have := hx.1; have := hx.2.1; show 0 ≤ x.to; omega, hx.2.2⟩
   ·simp only [go_sem, Nat.reduceEqDiff, Nat.reduceAdd, Nat.reduceLT, Nat.reduceLeDiff, reduceIte, h18, h19, h20, dec_lt hlt, hix, hc, hcz, hee, hv, h4', wn, dec_nn, ix, Nat.zero_add, Sp_get, hcs, wh, hle, hwr, Sp_set, wrap_n1 i (by omega)]
    refine Nx_of (i + 1, r, acc' ++ [⟨s.lo, max s.hi x.to⟩]) (by simp) ?_
    simp only [go_sem, Nat.reduceEqDiff, Nat.reduceAdd, Nat.reduceLT, Nat.reduceLeDiff, reduceIte, h18, h19, hv]
    refine ⟨trivial, trivial, trivial, hd2, ?_, trivial, .inr ⟨by simp, id, by simp, ?_⟩, ?_, by simp; omega⟩
    ·rw [← hf]; simp only [List.foldl_cons]; rw [stepS_last, if_pos (of_decide_eq_true hle)]
    ·rw [List.getElem?_set_self (by simp; omega)]
    ·intro t hts
     rcases List.mem_append.1 hts with h | h
     ·exact hsb t (by simp [h])
     ·obtain rfl := List.mem_singleton.1 h
      have h1 := hsB.1; have h2 := hsB.2; have h3 := hx.2.2
      exact ⟨by show 0 ≤ max s.hi x.to; omega, by show max s.hi x.to ≤ 9999; omega⟩
structure Fl where
 id : Int
 sum : Int
 deriving DecidableEq
def encF (f : Fl) : AV := .agg [I64 f.id, I64 f.sum]
def encFs (l : List Fl) : AV := .sl (l.map encF) .unk
theorem F_get (l : List Fl) (k : Nat) : (l.map encF)[k]? = l[k]?.map encF := List.getElem?_map
def sumF (id : Int) : List Fl → Int × Bool
 | [] => (0, false)
 | f :: r => if (f.id == id) = true then (f.sum, true) else sumF id r
theorem sum_ok (l : List Fl) (id : Int) (hl : l.length < 1073741824) : RV ft 104 [encFs l, I64 id] (.tup [I64 (sumF id l).1, .bool (sumF id l).2]) := by
 refine RV_of ft104 rfl ?_
 simp only [c104, r104]
 have hc : ∀ f : Fl, (encF f).cells = [I64 f.id, I64 f.sum] := fun _ => rfl
 simp only [go_sem, Nat.reduceEqDiff, Nat.reduceAdd, Nat.reduceLT, Nat.reduceLeDiff, reduceIte]
 refine WL_inv (α := Nat × List Fl) (fun q e mm => e 0 = encFs l ∧ e 1 = I64 id ∧ e 6 = I64 q.1 ∧ l.drop q.1 = q.2 ∧ sumF id q.2 = sumF id l) (fun q => q.2.length) (0, l) ?_ ?_
 ·simp only [go_sem, Nat.reduceEqDiff, Nat.reduceAdd, Nat.reduceLT, Nat.reduceLeDiff, reduceIte]
  exact ⟨trivial, trivial, rfl, trivial⟩
 rintro ⟨k, r⟩ e m ⟨h0, h1, h6, hd, hq⟩
 dsimp only at h6 hd hq
 cases r with
 | nil =>
  have h3 := drop_nil hd
  simp only [go_sem, Nat.reduceEqDiff, Nat.reduceAdd, Nat.reduceLT, Nat.reduceLeDiff, reduceIte, h0, h1, h6, encFs, List.length_map, dec_ge h3]
  rw [← hq]; rfl
 | cons x r =>
  obtain ⟨hk, hd2, hlt⟩ := drop_cons hd
  cases hx : (x.id == id)
  ·simp only [go_sem, Nat.reduceEqDiff, Nat.reduceAdd, Nat.reduceLT, Nat.reduceLeDiff, reduceIte, h0, h1, h6, encFs, List.length_map, dec_lt hlt, dec_nn, Int.toNat_natCast, F_get, hk, hc, hx, Nat.zero_add, wrap_n1 k (by omega)]
   refine Nx_of (k + 1, r) (by simp) ?_
   simp only [go_sem, Nat.reduceEqDiff, Nat.reduceAdd, Nat.reduceLT, Nat.reduceLeDiff, reduceIte, h0, h1, encFs]
   exact ⟨trivial, trivial, trivial, hd2, by rw [← hq]; simp [sumF, hx]⟩
  ·simp only [go_sem, Nat.reduceEqDiff, Nat.reduceAdd, Nat.reduceLT, Nat.reduceLeDiff, reduceIte, h0, h1, h6, encFs, List.length_map, dec_lt hlt, dec_nn, Int.toNat_natCast, F_get, hk, hc, hx, Nat.zero_add]
   rw [← hq]; simp [sumF, hx]
def filesF (all : List Fl) : Nat → List Fl → Bool
 | _, [] => true
 | k, f :: r => inR f.id 0 99 && (inR f.sum 0 999 && (!((all.take k).any fun g => g.id == f.id) && filesF all (k + 1) r))
def filesL (l : List Fl) : Bool := filesF l 0 l
theorem files_ok (l : List Fl) (hl : l.length < 1073741824) : RV ft 95 [encFs l] (.bool (filesL l)) := by
 refine RV_of ft95 rfl ?_
 simp only [c95, r95]
 have hc : ∀ f : Fl, (encF f).cells = [I64 f.id, I64 f.sum] := fun _ => rfl
 simp only [go_sem, Nat.reduceEqDiff, Nat.reduceAdd, Nat.reduceLT, Nat.reduceLeDiff, reduceIte]
 refine WL_inv (α := Nat × List Fl) (fun q e mm => e 0 = encFs l ∧ e 3 = I64 q.1 ∧ l.drop q.1 = q.2 ∧ filesF l q.1 q.2 = filesL l) (fun q => q.2.length) (0, l) ?_ ?_
 ·simp only [go_sem, Nat.reduceEqDiff, Nat.reduceAdd, Nat.reduceLT, Nat.reduceLeDiff, reduceIte]
  exact ⟨trivial, rfl, trivial, rfl⟩
 rintro ⟨k, r⟩ e m ⟨h0, h3, hd, hq⟩
 dsimp only at h3 hd hq
 cases r with
 | nil =>
  have h4 := drop_nil hd
  simp only [go_sem, Nat.reduceEqDiff, Nat.reduceAdd, Nat.reduceLT, Nat.reduceLeDiff, reduceIte, h0, h3, encFs, List.length_map, dec_ge h4]
  rw [← hq]; rfl
 | cons x r =>
  obtain ⟨hk, hd2, hlt⟩ := drop_cons hd
  cases hx : inR x.id 0 99
  case false =>
   simp only [go_sem, Nat.reduceEqDiff, Nat.reduceAdd, Nat.reduceLT, Nat.reduceLeDiff, reduceIte, h0, h3, encFs, List.length_map, dec_lt hlt, dec_nn, Int.toNat_natCast, F_get, hk, hc, Nat.zero_add, WB73, WVH_eq (within_ok x.id 0 99), hx, true_and]
   rw [← hq]; simp [filesF, hx]
  cases hy : inR x.sum 0 999
  case false =>
   simp only [go_sem, Nat.reduceEqDiff, Nat.reduceAdd, Nat.reduceLT, Nat.reduceLeDiff, reduceIte, h0, h3, encFs, List.length_map, dec_lt hlt, dec_nn, Int.toNat_natCast, F_get, hk, hc, Nat.zero_add, WB73, WVH_eq (within_ok x.id 0 99), WVH_eq (within_ok x.sum 0 999), hx, hy, true_and]
   rw [← hq]; simp [filesF, hx, hy]
  simp only [go_sem, Nat.reduceEqDiff, Nat.reduceAdd, Nat.reduceLT, Nat.reduceLeDiff, reduceIte, h0, h3, encFs, List.length_map, dec_lt hlt, dec_nn, Int.toNat_natCast, F_get, hk, hc, Nat.zero_add, WB73, WVH_eq (within_ok x.id 0 99), WVH_eq (within_ok x.sum 0 999), hx, hy, true_and]
  refine WL_inv (α := Nat) (fun j e mm => e 0 = encFs l ∧ e 3 = I64 k ∧ e 4 = I64 j ∧ j ≤ k ∧ ((l.take j).any fun g => g.id == x.id) = false) (fun j => k - j) 0 ?_ ?_
  ·simp only [go_sem, Nat.reduceEqDiff, Nat.reduceAdd, Nat.reduceLT, Nat.reduceLeDiff, reduceIte, h0, h3, encFs]
   exact ⟨trivial, trivial, rfl, by first | trivial | omega, trivial⟩
  rintro j e2 m2 ⟨g0, g3, g4, hjk, ha⟩
  by_cases hj : j < k
  ·obtain ⟨y, hy'⟩ : ∃ y, l[j]? = some y := ⟨l[j], by simp⟩
   have htk : l.take (j + 1) = l.take j ++ [y] := by rw [List.take_add_one, hy']; rfl
   cases hxy : (y.id == x.id)
   ·simp only [go_sem, Nat.reduceEqDiff, Nat.reduceAdd, Nat.reduceLT, Nat.reduceLeDiff, reduceIte, g0, g3, g4, encFs, dec_lt hj, dec_nn, Int.toNat_natCast, F_get, hk, hy', hc, Nat.zero_add, hxy, wrap_n1 j (by omega)]
    refine Nx_of (j + 1) (by first | omega | (dsimp only; omega)) ?_
    simp only [go_sem, Nat.reduceEqDiff, Nat.reduceAdd, Nat.reduceLT, Nat.reduceLeDiff, reduceIte, g0, g3, encFs]
    exact ⟨trivial, trivial, trivial, by omega, by rw [htk]; simp [ha, hxy]⟩
   ·simp only [go_sem, Nat.reduceEqDiff, Nat.reduceAdd, Nat.reduceLT, Nat.reduceLeDiff, reduceIte, g0, g3, g4, encFs, dec_lt hj, dec_nn, Int.toNat_natCast, F_get, hk, hy', hc, Nat.zero_add, hxy]
    rw [← hq]
    have : ((l.take k).any fun g => g.id == x.id) = true := by
     rw [List.any_eq_true]
     exact ⟨y, List.mem_of_getElem? (by rw [List.getElem?_take, if_pos hj]; exact hy'), hxy⟩
    simp [filesF, hx, hy, this]
  ·have hjk' : j = k := by omega
   subst hjk'
   simp only [go_sem, Nat.reduceEqDiff, Nat.reduceAdd, Nat.reduceLT, Nat.reduceLeDiff, reduceIte, g0, g3, g4, encFs, show decide ((j : Int) < (j : Int)) = false from decide_eq_false (by omega), wrap_n1 j (by omega)]
   refine Nx_of (j + 1, r) (by simp) ?_
   simp only [go_sem, Nat.reduceEqDiff, Nat.reduceAdd, Nat.reduceLT, Nat.reduceLeDiff, reduceIte, g0, encFs]
   exact ⟨trivial, trivial, hd2, by rw [← hq]; simp [filesF, hx, hy, ha]⟩
structure Cm where
 id : Int
 film : Int
 tongue : Int
 subs : Int
 mins : Int
 locked : Bool
 assets : List Int
structure Sv where
 id : Int
 devs : List Int
 files : List Fl
structure Lb where
 assets : List Fl
 comps : List Cm
 screens : List Sv
 keys : List Ky
 recalled : List Int
def encC (c : Cm) : AV := .agg [I64 c.id, I64 c.film, I64 c.tongue, I64 c.subs, I64 c.mins, .bool c.locked, encI c.assets]
def encV (s : Sv) : AV := .agg [I64 s.id, encI s.devs, encFs s.files]
def encCs (l : List Cm) : AV := .sl (l.map encC) .unk
def encVs (l : List Sv) : AV := .sl (l.map encV) .unk
def encYs (l : List Ky) : AV := .sl (l.map encK) .unk
def encL (l : Lb) : AV := .agg [encFs l.assets, encCs l.comps, encVs l.screens, encYs l.keys, encI l.recalled]
theorem C_get (l : List Cm) (k : Nat) : (l.map encC)[k]? = l[k]?.map encC := List.getElem?_map
def zeroC : Cm := ⟨0, 0, 0, 0, 0, false, []⟩
def compF (id : Int) : List Cm → Cm × Bool
 | [] => (zeroC, false)
 | c :: r => if (c.id == id) = true then (c, true) else compF id r
theorem snC (m : Mem) (q : Nat) (c : Cm) : snap m (q + 3) (encC c) = encC c := by
 unfold encC; rw [snap_agg]
 simp only [List.map_cons, List.map_nil, snap_int, snap_bool, snI]
theorem Comp_ok (l : Lb) (id : Int) (hl : l.comps.length < 1073741824) : RV ft 21 [encL l, I64 id] (.tup [encC (compF id l.comps).1, .bool (compF id l.comps).2]) := by
 refine RV_of ft21 rfl ?_
 simp only [c21, r21]
 have s1 : (encFs l.assets).solid = true := rfl
 have s2 : (encCs l.comps).solid = true := rfl
 have s3 : (encVs l.screens).solid = true := rfl
 have s4 : (encYs l.keys).solid = true := rfl
 have s5 : (encI l.recalled).solid = true := rfl
 have hc : ∀ c : Cm, (encC c).cells = [I64 c.id, I64 c.film, I64 c.tongue, I64 c.subs, I64 c.mins, .bool c.locked, encI c.assets] := fun _ => rfl
 have hcs : ∀ c : Cm, (encI c.assets).solid = true := fun _ => rfl
 have hag : ∀ c : Cm, AV.agg [I64 c.id, I64 c.film, I64 c.tongue, I64 c.subs, I64 c.mins, .bool c.locked, encI c.assets] = encC c := fun _ => rfl
 have hlen : ∀ m : Mem, lenAt m (encCs l.comps) = some (I64 (l.comps.length : Int)) := fun m => by simp [encCs, lenAt]
 simp only [go_sem, Nat.reduceEqDiff, Nat.reduceAdd, Nat.reduceLT, Nat.reduceLeDiff, reduceIte, encL, s1, s2, s3, s4, s5]
 refine WL_inv (α := Nat × List Cm) (fun q e mm => e 1 = I64 id ∧ e 2 = .ptr 0 0 0 ∧ e 4 = .ptr 1 0 0 ∧ e 6 = I64 q.1 ∧ l.comps.drop q.1 = q.2 ∧ compF id q.2 = compF id l.comps ∧ mm = ⟨[.live [encL l] 5, .live [.agg [I64 0, I64 0, I64 0, I64 0, I64 0, .bool false, .sl [] .tight]] 7], []⟩) (fun q => q.2.length) (0, l.comps) ?_ ?_
 ·simp only [go_sem, Nat.reduceEqDiff, Nat.reduceAdd, Nat.reduceLT, Nat.reduceLeDiff, reduceIte, encL]
  exact ⟨trivial, trivial, trivial, rfl, trivial⟩
 rintro ⟨k, r⟩ e m ⟨h1, h2, h4, h6, hd, hq, rfl⟩
 dsimp only at h6 hd hq
 have hle : (encL l).cells = [encFs l.assets, encCs l.comps, encVs l.screens, encYs l.keys, encI l.recalled] := rfl
 cases r with
 | nil =>
  have h3 := drop_nil hd
  simp only [go_sem, Nat.reduceEqDiff, Nat.reduceAdd, Nat.reduceLT, Nat.reduceLeDiff, reduceIte, h1, h2, h4, h6, hle, hlen, dec_ge h3]
  rw [← hq]; rfl
 | cons x r =>
  obtain ⟨hk, hd2, hlt⟩ := drop_cons hd
  have hix : ∀ m : Mem, idxAt m (encCs l.comps) (I64 (k : Int)) 7 = some (.pv (encC x) 0) := fun m => by
   unfold encCs
   rw [idxAt_sl, if_pos (by omega), Int.toNat_natCast, C_get, hk]
   rfl
  cases hx : (x.id == id)
  ·simp only [go_sem, Nat.reduceEqDiff, Nat.reduceAdd, Nat.reduceLT, Nat.reduceLeDiff, reduceIte, h1, h2, h4, h6, hle, hlen, dec_lt hlt, hix, hc, Nat.zero_add, hx, wrap_n1 k (by omega)]
   refine Nx_of (k + 1, r) (by simp) ?_
   simp only [go_sem, Nat.reduceEqDiff, Nat.reduceAdd, Nat.reduceLT, Nat.reduceLeDiff, reduceIte, h1, h2, h4]
   exact ⟨trivial, trivial, trivial, trivial, hd2, by rw [← hq]; simp [compF, hx], trivial⟩
  ·simp only [go_sem, Nat.reduceEqDiff, Nat.reduceAdd, Nat.reduceLT, Nat.reduceLeDiff, reduceIte, h1, h2, h4, h6, hle, hlen, dec_lt hlt, hix, hc, hcs, hag, Nat.zero_add, hx, snC]
   rw [← hq]; simp [compF, hx]
attribute [go_sem] snC
theorem V_get (l : List Sv) (k : Nat) : (l.map encV)[k]? = l[k]?.map encV := List.getElem?_map
def zeroV : Sv := ⟨0, [], []⟩
def scrF (id : Int) : List Sv → Sv × Bool
 | [] => (zeroV, false)
 | c :: r => if (c.id == id) = true then (c, true) else scrF id r
theorem snF (m : Mem) (q : Nat) (l : List Fl) : snap m (q + 3) (encFs l) = encFs l := by
 unfold encFs; rw [snap_sl, List.map_map]; congr 1
theorem snV (m : Mem) (q : Nat) (c : Sv) : snap m (q + 4) (encV c) = encV c := by
 unfold encV; rw [snap_agg]
 simp only [List.map_cons, List.map_nil, snap_int, snI, snF]
theorem Screen_ok (l : Lb) (id : Int) (hl : l.screens.length < 1073741824) : RV ft 22 [encL l, I64 id] (.tup [encV (scrF id l.screens).1, .bool (scrF id l.screens).2]) := by
 refine RV_of ft22 rfl ?_
 simp only [c22, r22]
 have s1 : (encFs l.assets).solid = true := rfl
 have s2 : (encCs l.comps).solid = true := rfl
 have s3 : (encVs l.screens).solid = true := rfl
 have s4 : (encYs l.keys).solid = true := rfl
 have s5 : (encI l.recalled).solid = true := rfl
 have hc : ∀ c : Sv, (encV c).cells = [I64 c.id, encI c.devs, encFs c.files] := fun _ => rfl
 have hcs : ∀ c : Sv, (encI c.devs).solid = true := fun _ => rfl
 have hct : ∀ c : Sv, (encFs c.files).solid = true := fun _ => rfl
 have hag : ∀ c : Sv, AV.agg [I64 c.id, encI c.devs, encFs c.files] = encV c := fun _ => rfl
 have hlen : ∀ m : Mem, lenAt m (encVs l.screens) = some (I64 (l.screens.length : Int)) := fun m => by simp [encVs, lenAt]
 simp only [go_sem, Nat.reduceEqDiff, Nat.reduceAdd, Nat.reduceLT, Nat.reduceLeDiff, reduceIte, encL, s1, s2, s3, s4, s5]
 refine WL_inv (α := Nat × List Sv) (fun q e mm => e 1 = I64 id ∧ e 2 = .ptr 0 0 0 ∧ e 4 = .ptr 1 0 0 ∧ e 6 = I64 q.1 ∧ l.screens.drop q.1 = q.2 ∧ scrF id q.2 = scrF id l.screens ∧ mm = ⟨[.live [encL l] 5, .live [.agg [I64 0, .sl [] .tight, .sl [] .tight]] 3], []⟩) (fun q => q.2.length) (0, l.screens) ?_ ?_
 ·simp only [go_sem, Nat.reduceEqDiff, Nat.reduceAdd, Nat.reduceLT, Nat.reduceLeDiff, reduceIte, encL]
  exact ⟨trivial, trivial, trivial, rfl, trivial⟩
 rintro ⟨k, r⟩ e m ⟨h1, h2, h4, h6, hd, hq, rfl⟩
 dsimp only at h6 hd hq
 have hle : (encL l).cells = [encFs l.assets, encCs l.comps, encVs l.screens, encYs l.keys, encI l.recalled] := rfl
 cases r with
 | nil =>
  have h3 := drop_nil hd
  simp only [go_sem, Nat.reduceEqDiff, Nat.reduceAdd, Nat.reduceLT, Nat.reduceLeDiff, reduceIte, h1, h2, h4, h6, hle, hlen, dec_ge h3]
  rw [← hq]; rfl
 | cons x r =>
  obtain ⟨hk, hd2, hlt⟩ := drop_cons hd
  have hix : ∀ m : Mem, idxAt m (encVs l.screens) (I64 (k : Int)) 3 = some (.pv (encV x) 0) := fun m => by
   unfold encVs
   rw [idxAt_sl, if_pos (by omega), Int.toNat_natCast, V_get, hk]
   rfl
  cases hx : (x.id == id)
  ·simp only [go_sem, Nat.reduceEqDiff, Nat.reduceAdd, Nat.reduceLT, Nat.reduceLeDiff, reduceIte, h1, h2, h4, h6, hle, hlen, dec_lt hlt, hix, hc, Nat.zero_add, hx, wrap_n1 k (by omega)]
   refine Nx_of (k + 1, r) (by simp) ?_
   simp only [go_sem, Nat.reduceEqDiff, Nat.reduceAdd, Nat.reduceLT, Nat.reduceLeDiff, reduceIte, h1, h2, h4]
   exact ⟨trivial, trivial, trivial, trivial, hd2, by rw [← hq]; simp [scrF, hx], trivial⟩
  ·simp only [go_sem, Nat.reduceEqDiff, Nat.reduceAdd, Nat.reduceLT, Nat.reduceLeDiff, reduceIte, h1, h2, h4, h6, hle, hlen, dec_lt hlt, hix, hc, hcs, hct, hag, Nat.zero_add, hx, snV]
   rw [← hq]; simp [scrF, hx]
attribute [go_sem] snV snF
theorem eqL_dec (a b : List Int) : eqL a b = decide (a = b) := by
 by_cases h : a = b
 ·rw [decide_eq_true h]; exact (eqL_iff a b).2 h
 ·rw [decide_eq_false h]
  cases hq : eqL a b
  ·rfl
  ·exact absurd ((eqL_iff a b).1 hq) h
def sameK (a b : Ky) : Bool := (a.id == b.id) && ((a.comp == b.comp) && ((a.fr == b.fr) && ((a.to == b.to) && eqL a.devs b.devs)))
theorem sameK_dec (a b : Ky) : sameK a b = decide (a = b) := by
 obtain ⟨a1, a2, a3, a4, a5⟩ := a
 obtain ⟨b1, b2, b3, b4, b5⟩ := b
 simp only [sameK, Ky.mk.injEq, eqL_dec]
 rw [Bool.eq_iff_iff]
 simp only [Bool.and_eq_true, beq_iff_eq, decide_eq_true_eq]
 constructor
 ·rintro ⟨h1, h2, h3, h4, h5⟩; exact ⟨h1, h2, h5, h3, h4⟩
 ·rintro ⟨h1, h2, h3, h4, h5⟩; exact ⟨h1, h2, h4, h5, h3⟩
theorem KyEta (x : Ky) : AV.agg [I64 x.id, I64 x.comp, encI x.devs, I64 x.fr, I64 x.to] = encK x := rfl
theorem KyCells (x : Ky) : (encK x).cells = [I64 x.id, I64 x.comp, encI x.devs, I64 x.fr, I64 x.to] := rfl
theorem encI_solid (l : List Int) : (encI l).solid = true := rfl
theorem encI_cells (l : List Int) : (encI l).cells = [encI l] := rfl
theorem encI_len (m : Mem) (l : List Int) : lenAt m (encI l) = some (I64 (l.length : Int)) := by simp [encI, lenAt]
theorem SameKey_ok (a b : Ky) (ha : a.devs.length < 1073741824) (hb : b.devs.length < 1073741824) : RV ft 93 [encK a, encK b] (.bool (decide (a = b))) := by
 rw [← sameK_dec]
 refine RV_of ft93 rfl ?_
 simp only [c93, r93]
 unfold sameK
 cases h1 : (a.id == b.id)
 case false => simp only [go_sem, Nat.reduceEqDiff, Nat.reduceAdd, Nat.reduceLT, Nat.reduceLeDiff, reduceIte, KyCells, encI_solid, h1]
 cases h2 : (a.comp == b.comp)
 case false => simp only [go_sem, Nat.reduceEqDiff, Nat.reduceAdd, Nat.reduceLT, Nat.reduceLeDiff, reduceIte, KyCells, encI_solid, h1, h2]
 cases h3 : (a.fr == b.fr)
 case false => simp only [go_sem, Nat.reduceEqDiff, Nat.reduceAdd, Nat.reduceLT, Nat.reduceLeDiff, reduceIte, KyCells, encI_solid, h1, h2, h3]
 cases h4 : (a.to == b.to)
 case false => simp only [go_sem, Nat.reduceEqDiff, Nat.reduceAdd, Nat.reduceLT, Nat.reduceLeDiff, reduceIte, KyCells, encI_solid, h1, h2, h3, h4]
 simp only [go_sem, Nat.reduceEqDiff, Nat.reduceAdd, Nat.reduceLT, Nat.reduceLeDiff, reduceIte, KyCells, encI_solid, h1, h2, h3, h4, WB123, WVH_eq (sameI_ok a.devs b.devs ha hb), true_and]
def clashF (all : List Ky) : Nat → List Ky → Bool
 | _, [] => false
 | k, x :: r => ((all.take k).any fun y => (y.id == x.id) && !(decide (y = x))) || clashF all (k + 1) r
theorem encKs_len (m : Mem) (l : List Ky) : lenAt m (encKs l) = some (I64 (l.length : Int)) := by simp [encKs, lenAt]
theorem encKs_idx {l : List Ky} {k : Nat} {x : Ky} (h : l[k]? = some x) (m : Mem) : idxAt m (encKs l) (I64 (k : Int)) 5 = some (.pv (encK x) 0) := by
 unfold encKs
 rw [idxAt_sl, if_pos (by omega), Int.toNat_natCast, K_get, h]
 rfl
def DvB (l : List Ky) : Prop := ∀ k ∈ l, k.devs.length < 1073741824
theorem clashR_ok (l : List Ky) (hl : l.length < 1073741824) (hd' : DvB l) : RV ft 56 [encKs l] (.bool (clashF l 0 l)) := by
 refine RV_of ft56 rfl ?_
 simp only [c56, r56]
 simp only [go_sem, Nat.reduceEqDiff, Nat.reduceAdd, Nat.reduceLT, Nat.reduceLeDiff, reduceIte]
 refine WL_inv (α := Nat × List Ky) (fun q e mm => e 0 = encKs l ∧ e 3 = I64 q.1 ∧ l.drop q.1 = q.2 ∧ clashF l q.1 q.2 = clashF l 0 l) (fun q => q.2.length) (0, l) ?_ ?_
 ·simp only [go_sem, Nat.reduceEqDiff, Nat.reduceAdd, Nat.reduceLT, Nat.reduceLeDiff, reduceIte]
  ((repeat' apply And.intro) <;> first | trivial | rfl | omega | assumption)
 rintro ⟨k, r⟩ e m ⟨h0, h3, hd, hq⟩
 dsimp only at h3 hd hq
 cases r with
 | nil =>
  have h4 := drop_nil hd
  simp only [go_sem, Nat.reduceEqDiff, Nat.reduceAdd, Nat.reduceLT, Nat.reduceLeDiff, reduceIte, h0, h3, encKs_len, dec_ge h4]
  rw [← hq]; rfl
 | cons x r =>
  obtain ⟨hk, hd2, hlt⟩ := drop_cons hd
  have hxm : x ∈ l := List.mem_of_getElem? hk
  simp only [go_sem, Nat.reduceEqDiff, Nat.reduceAdd, Nat.reduceLT, Nat.reduceLeDiff, reduceIte, h0, h3, encKs_len, dec_lt hlt]
  refine WL_inv (α := Nat) (fun j e mm => e 0 = encKs l ∧ e 3 = I64 k ∧ e 4 = I64 j ∧ j ≤ k ∧ ((l.take j).any fun y => (y.id == x.id) && !(decide (y = x))) = false) (fun j => k - j) 0 ?_ ?_
  ·simp only [go_sem, Nat.reduceEqDiff, Nat.reduceAdd, Nat.reduceLT, Nat.reduceLeDiff, reduceIte, h0, h3]
   exact ⟨trivial, trivial, rfl, by first | trivial | omega, trivial⟩
  rintro j e2 m2 ⟨g0, g3, g4, hjk, ha⟩
  by_cases hj : j < k
  ·obtain ⟨y, hy'⟩ : ∃ y, l[j]? = some y := ⟨l[j], by simp⟩
   have htk : l.take (j + 1) = l.take j ++ [y] := by rw [List.take_add_one, hy']; rfl
   have hym : y ∈ l := List.mem_of_getElem? hy'
   cases hxy : (y.id == x.id)
   ·simp only [go_sem, Nat.reduceEqDiff, Nat.reduceAdd, Nat.reduceLT, Nat.reduceLeDiff, reduceIte, g0, g3, g4, dec_lt hj, encKs_idx hk, encKs_idx hy', KyCells, hxy, wrap_n1 j (by omega)]
    refine Nx_of (j + 1) (by first | omega | (dsimp only; omega)) ?_
    simp only [go_sem, Nat.reduceEqDiff, Nat.reduceAdd, Nat.reduceLT, Nat.reduceLeDiff, reduceIte, g0, g3]
    exact ⟨trivial, trivial, trivial, by omega, by rw [htk]; simp [ha, hxy]⟩
   ·cases hyx : decide (y = x)
    ·simp only [go_sem, Nat.reduceEqDiff, Nat.reduceAdd, Nat.reduceLT, Nat.reduceLeDiff, reduceIte, g0, g3, g4, dec_lt hj, encKs_idx hk, encKs_idx hy', KyCells, hxy, encI_solid, KyEta, WB93, WVH_eq (SameKey_ok y x (hd' y hym) (hd' x hxm)), hyx, true_and]
     rw [← hq]
     have : ((l.take k).any fun y => (y.id == x.id) && !(decide (y = x))) = true := by
      rw [List.any_eq_true]
      exact ⟨y, List.mem_of_getElem? (by rw [List.getElem?_take, if_pos hj]; exact hy'), by simp only [hxy, hyx]; rfl⟩
     simp [clashF, this]
    ·simp only [go_sem, Nat.reduceEqDiff, Nat.reduceAdd, Nat.reduceLT, Nat.reduceLeDiff, reduceIte, g0, g3, g4, dec_lt hj, encKs_idx hk, encKs_idx hy', KyCells, hxy, encI_solid, KyEta, WB93, WVH_eq (SameKey_ok y x (hd' y hym) (hd' x hxm)), hyx, true_and, wrap_n1 j (by omega)]
     refine Nx_of (j + 1) (by first | omega | (dsimp only; omega)) ?_
     simp only [go_sem, Nat.reduceEqDiff, Nat.reduceAdd, Nat.reduceLT, Nat.reduceLeDiff, reduceIte, g0, g3]
     exact ⟨trivial, trivial, trivial, by omega, by rw [htk, List.any_append, ha]; simp only [List.any_cons, List.any_nil, hyx]; simp⟩
  ·have hjk' : j = k := by omega
   subst hjk'
   simp only [go_sem, Nat.reduceEqDiff, Nat.reduceAdd, Nat.reduceLT, Nat.reduceLeDiff, reduceIte, g0, g3, g4, show decide ((j : Int) < (j : Int)) = false from decide_eq_false (by omega), wrap_n1 j (by omega)]
   refine Nx_of (j + 1, r) (by simp) ?_
   simp only [go_sem, Nat.reduceEqDiff, Nat.reduceAdd, Nat.reduceLT, Nat.reduceLeDiff, reduceIte, g0]
   exact ⟨trivial, trivial, hd2, by rw [← hq]; simp only [clashF, ha]; rfl⟩
attribute [go_sem] encI_solid encI_len
theorem CmEta (c : Cm) : AV.agg [I64 c.id, I64 c.film, I64 c.tongue, I64 c.subs, I64 c.mins, .bool c.locked, encI c.assets] = encC c := rfl
theorem CmCells (c : Cm) : (encC c).cells = [I64 c.id, I64 c.film, I64 c.tongue, I64 c.subs, I64 c.mins, .bool c.locked, encI c.assets] := rfl
theorem SvEta (c : Sv) : AV.agg [I64 c.id, encI c.devs, encFs c.files] = encV c := rfl
theorem SvCells (c : Sv) : (encV c).cells = [I64 c.id, encI c.devs, encFs c.files] := rfl
theorem FlEta (f : Fl) : AV.agg [I64 f.id, I64 f.sum] = encF f := rfl
theorem FlCells (f : Fl) : (encF f).cells = [I64 f.id, I64 f.sum] := rfl
theorem LbEta (l : Lb) : AV.agg [encFs l.assets, encCs l.comps, encVs l.screens, encYs l.keys, encI l.recalled] = encL l := rfl
theorem LbCells (l : Lb) : (encL l).cells = [encFs l.assets, encCs l.comps, encVs l.screens, encYs l.keys, encI l.recalled] := rfl
theorem encFs_solid (l : List Fl) : (encFs l).solid = true := rfl
theorem encCs_solid (l : List Cm) : (encCs l).solid = true := rfl
theorem encVs_solid (l : List Sv) : (encVs l).solid = true := rfl
theorem encYs_solid (l : List Ky) : (encYs l).solid = true := rfl
theorem encYs_eq (l : List Ky) : encYs l = encKs l := rfl
theorem encKs_solid (l : List Ky) : (encKs l).solid = true := rfl
theorem encFs_cells (l : List Fl) : (encFs l).cells = [encFs l] := rfl
theorem encFs_len (m : Mem) (l : List Fl) : lenAt m (encFs l) = some (I64 (l.length : Int)) := by simp [encFs, lenAt]
theorem encCs_len (m : Mem) (l : List Cm) : lenAt m (encCs l) = some (I64 (l.length : Int)) := by simp [encCs, lenAt]
theorem encVs_len (m : Mem) (l : List Sv) : lenAt m (encVs l) = some (I64 (l.length : Int)) := by simp [encVs, lenAt]
theorem encYs_len (m : Mem) (l : List Ky) : lenAt m (encYs l) = some (I64 (l.length : Int)) := by simp [encYs, lenAt]
theorem encFs_idx {l : List Fl} {k : Nat} {x : Fl} (h : l[k]? = some x) (m : Mem) : idxAt m (encFs l) (I64 (k : Int)) 2 = some (.pv (encF x) 0) := by
 unfold encFs; rw [idxAt_sl, if_pos (by omega), Int.toNat_natCast, F_get, h]; rfl
theorem encCs_idx {l : List Cm} {k : Nat} {x : Cm} (h : l[k]? = some x) (m : Mem) : idxAt m (encCs l) (I64 (k : Int)) 7 = some (.pv (encC x) 0) := by
 unfold encCs; rw [idxAt_sl, if_pos (by omega), Int.toNat_natCast, C_get, h]; rfl
theorem encVs_idx {l : List Sv} {k : Nat} {x : Sv} (h : l[k]? = some x) (m : Mem) : idxAt m (encVs l) (I64 (k : Int)) 3 = some (.pv (encV x) 0) := by
 unfold encVs; rw [idxAt_sl, if_pos (by omega), Int.toNat_natCast, V_get, h]; rfl
theorem encYs_idx {l : List Ky} {k : Nat} {x : Ky} (h : l[k]? = some x) (m : Mem) : idxAt m (encYs l) (I64 (k : Int)) 5 = some (.pv (encK x) 0) := encKs_idx h m
theorem encI_idx {l : List Int} {k : Nat} {x : Int} (h : l[k]? = some x) (m : Mem) : idxAt m (encI l) (I64 (k : Int)) 1 = some (.pv (I64 x) 0) := by
 unfold encI; rw [idxAt_sl, if_pos (by omega), Int.toNat_natCast, I_get, h]; rfl
theorem hotFs (q : Nat) (l : List Fl) : hot (q + 3) (encFs l) = false := by
 unfold encFs; rw [hot_sl, List.any_map]
 exact List.any_eq_false.2 fun k _ => by simp [encF, hot]
theorem hotC (q : Nat) (c : Cm) : hot (q + 3) (encC c) = false := by
 unfold encC; rw [hot_agg]
 simp only [List.any_cons, List.any_nil, hot_int, hot_bool, hotI, Bool.or_false, Bool.false_or]
theorem hotV (q : Nat) (c : Sv) : hot (q + 4) (encV c) = false := by
 unfold encV; rw [hot_agg]
 simp only [List.any_cons, List.any_nil, hot_int, hotI, hotFs, Bool.or_false, Bool.false_or]
theorem snCs (m : Mem) (q : Nat) (l : List Cm) : snap m (q + 4) (encCs l) = encCs l := by
 unfold encCs; rw [snap_sl, List.map_map]; congr 1
 exact List.map_congr_left fun k _ => snC m q k
theorem snVs (m : Mem) (q : Nat) (l : List Sv) : snap m (q + 5) (encVs l) = encVs l := by
 unfold encVs; rw [snap_sl, List.map_map]; congr 1
 exact List.map_congr_left fun k _ => snV m q k
theorem snL (m : Mem) (q : Nat) (l : Lb) : snap m (q + 6) (encL l) = encL l := by
 unfold encL; rw [snap_agg]
 simp only [List.map_cons, List.map_nil, snF, snCs, snVs, encYs_eq, snKs, snI]
theorem hotKs (q : Nat) (l : List Ky) : hot (q + 4) (encKs l) = false := by
 unfold encKs; rw [hot_sl, List.any_map]
 exact List.any_eq_false.2 fun k _ => by simp [hotK]
theorem hotCs (q : Nat) (l : List Cm) : hot (q + 4) (encCs l) = false := by
 unfold encCs; rw [hot_sl, List.any_map]
 exact List.any_eq_false.2 fun k _ => by simp [hotC]
theorem hotVs (q : Nat) (l : List Sv) : hot (q + 5) (encVs l) = false := by
 unfold encVs; rw [hot_sl, List.any_map]
 exact List.any_eq_false.2 fun k _ => by simp [hotV]
theorem hotL (q : Nat) (l : Lb) : hot (q + 6) (encL l) = false := by
 unfold encL; rw [hot_agg]
 simp only [List.any_cons, List.any_nil, hotFs, hotCs, hotVs, encYs_eq, hotKs, hotI, Bool.or_false, Bool.false_or]
theorem get_app1 {bl : List Blk} {i : Nat} {b : Blk} (h : bl[i]? = some b) (c : Blk) : (bl ++ [c])[i]? = some b := by
 rw [List.getElem?_append_left (List.getElem?_eq_some_iff.1 h).1]; exact h
theorem any_take_lt {α : Type} {all : List α} {p : α → Bool} {k j : Nat} {y : α} (hj : j < k) (hy : all[j]? = some y) (h : p y = true) : (all.take k).any p = true :=
 List.any_eq_true.2 ⟨y, List.mem_of_getElem? (by rw [List.getElem?_take, if_pos hj]; exact hy), h⟩
theorem any_take_succ {α : Type} {all : List α} {p : α → Bool} {j : Nat} {y : α} (hy : all[j]? = some y) : (all.take (j + 1)).any p = ((all.take j).any p || p y) := by
 rw [List.take_add_one, hy]; simp
def okFrom {α : Type} (key : α → Int) (ok : α → Bool) (all : List α) : Nat → List α → Bool
 | _, [] => true
 | k, x :: r => (!((all.take k).any fun y => key y == key x) && ok x) && okFrom key ok all (k + 1) r
theorem filesF_ok (all : List Fl) : ∀ (r : List Fl) (k : Nat), filesF all k r = okFrom Fl.id (fun f => inR f.id 0 99 && inR f.sum 0 999) all k r
 | [], k => rfl
 | x :: r, k => by
  simp only [filesF, okFrom, filesF_ok all r (k + 1)]
  cases inR x.id 0 99 <;> cases inR x.sum 0 999 <;> cases ((all.take k).any fun y => y.id == x.id) <;> simp
def compOK (as : List Fl) (c : Cm) : Bool := (c.assets.all fun a => (sumF a as).2) && (inR c.id 0 99 && (inR c.film 0 99 && (inR c.tongue 0 9 && (inR c.subs 0 9 && (inR c.mins 1 400 && (decide (0 < (c.assets.length : Int)) && ascL c.assets))))))
theorem isComp_ok (as : List Fl) (c : Cm) (ha : as.length < 1073741824) (hc : c.assets.length < 1073741824) : RV ft 96 [encFs as, encC c] (.bool (compOK as c)) := by
 refine RV_of ft96 rfl ?_
 simp only [c96, r96]
 simp only [go_sem, Nat.reduceEqDiff, Nat.reduceAdd, Nat.reduceLT, Nat.reduceLeDiff, reduceIte, CmCells]
 refine WL_inv (α := Nat × List Int) (fun q e mm => e 0 = encFs as ∧ e 3 = .ptr 0 0 0 ∧ e 5 = I64 q.1 ∧ c.assets.drop q.1 = q.2 ∧ mm = ⟨[.live [encC c] 7], []⟩ ∧ (q.2.all fun a => (sumF a as).2) = (c.assets.all fun a => (sumF a as).2)) (fun q => q.2.length) (0, c.assets) ?_ ?_
 ·simp only [go_sem, Nat.reduceEqDiff, Nat.reduceAdd, Nat.reduceLT, Nat.reduceLeDiff, reduceIte]
  ((repeat' apply And.intro) <;> first | trivial | rfl | omega | assumption)
 rintro ⟨k, r⟩ e m ⟨h0, h3, h5, hd, rfl, hq⟩
 dsimp only at h5 hd hq
 cases r
 case cons x r =>
  obtain ⟨hk, hd2, hlt⟩ := drop_cons hd
  cases hx : (sumF x as).2
  ·simp only [go_sem, Nat.reduceEqDiff, Nat.reduceAdd, Nat.reduceLT, Nat.reduceLeDiff, reduceIte, h0, h3, h5, CmCells, dec_lt hlt, encI_idx hk, WB104, hotFs, WVH_eq (sum_ok as x ha), hx, true_and, Nat.zero_add]
   unfold compOK
   rw [← hq]; simp [hx]
  ·simp only [go_sem, Nat.reduceEqDiff, Nat.reduceAdd, Nat.reduceLT, Nat.reduceLeDiff, reduceIte, h0, h3, h5, CmCells, dec_lt hlt, encI_idx hk, WB104, hotFs, WVH_eq (sum_ok as x ha), hx, true_and, Nat.zero_add, wrap_n1 k (by omega)]
   refine Nx_of (k + 1, r) (by simp) ?_
   simp only [go_sem, Nat.reduceEqDiff, Nat.reduceAdd, Nat.reduceLT, Nat.reduceLeDiff, reduceIte, h0, h3]
   exact ⟨trivial, trivial, trivial, hd2, trivial, by rw [← hq]; simp [hx]⟩
 have h4 := drop_nil hd
 have hq' : (c.assets.all fun a => (sumF a as).2) = true := by rw [← hq]; rfl
 unfold compOK
 rw [hq', Bool.true_and]
 cases h1 : inR c.id 0 99
 case false => simp only [go_sem, Nat.reduceEqDiff, Nat.reduceAdd, Nat.reduceLT, Nat.reduceLeDiff, reduceIte, h0, h3, h5, CmCells, dec_ge h4, WB73, WVH_eq (within_ok c.id 0 99), h1, true_and, Nat.zero_add]
 cases h2 : inR c.film 0 99
 case false => simp only [go_sem, Nat.reduceEqDiff, Nat.reduceAdd, Nat.reduceLT, Nat.reduceLeDiff, reduceIte, h0, h3, h5, CmCells, dec_ge h4, WB73, WVH_eq (within_ok c.id 0 99), WVH_eq (within_ok c.film 0 99), h1, h2, true_and, Nat.zero_add]
 cases h6 : inR c.tongue 0 9
 case false => simp only [go_sem, Nat.reduceEqDiff, Nat.reduceAdd, Nat.reduceLT, Nat.reduceLeDiff, reduceIte, h0, h3, h5, CmCells, dec_ge h4, WB73, WVH_eq (within_ok c.id 0 99), WVH_eq (within_ok c.film 0 99), WVH_eq (within_ok c.tongue 0 9), h1, h2, h6, true_and, Nat.zero_add]
 cases h7 : inR c.subs 0 9
 case false => simp only [go_sem, Nat.reduceEqDiff, Nat.reduceAdd, Nat.reduceLT, Nat.reduceLeDiff, reduceIte, h0, h3, h5, CmCells, dec_ge h4, WB73, WVH_eq (within_ok c.id 0 99), WVH_eq (within_ok c.film 0 99), WVH_eq (within_ok c.tongue 0 9), WVH_eq (within_ok c.subs 0 9), h1, h2, h6, h7, true_and, Nat.zero_add]
 cases h8 : inR c.mins 1 400
 case false => simp only [go_sem, Nat.reduceEqDiff, Nat.reduceAdd, Nat.reduceLT, Nat.reduceLeDiff, reduceIte, h0, h3, h5, CmCells, dec_ge h4, WB73, WVH_eq (within_ok c.id 0 99), WVH_eq (within_ok c.film 0 99), WVH_eq (within_ok c.tongue 0 9), WVH_eq (within_ok c.subs 0 9), WVH_eq (within_ok c.mins 1 400), h1, h2, h6, h7, h8, true_and, Nat.zero_add]
 cases h9 : decide (0 < (c.assets.length : Int))
 case false => simp only [go_sem, Nat.reduceEqDiff, Nat.reduceAdd, Nat.reduceLT, Nat.reduceLeDiff, reduceIte, h0, h3, h5, CmCells, dec_ge h4, WB73, WVH_eq (within_ok c.id 0 99), WVH_eq (within_ok c.film 0 99), WVH_eq (within_ok c.tongue 0 9), WVH_eq (within_ok c.subs 0 9), WVH_eq (within_ok c.mins 1 400), h1, h2, h6, h7, h8, h9, true_and, Nat.zero_add]
 simp only [go_sem, Nat.reduceEqDiff, Nat.reduceAdd, Nat.reduceLT, Nat.reduceLeDiff, reduceIte, h0, h3, h5, CmCells, dec_ge h4, WB73, WVH_eq (within_ok c.id 0 99), WVH_eq (within_ok c.film 0 99), WVH_eq (within_ok c.tongue 0 9), WVH_eq (within_ok c.subs 0 9), WVH_eq (within_ok c.mins 1 400), h1, h2, h6, h7, h8, h9, true_and, Nat.zero_add, WB97, WVH_eq (asc_ok c.assets hc)]
attribute [go_sem] encFs_solid encCs_solid encVs_solid encYs_solid encKs_solid hotC hotV snL hotL hotFs hotKs encYs_len encVs_len encCs_len encFs_len
structure LbB (l : Lb) : Prop where
 as : l.assets.length < 1073741824
 cs : l.comps.length < 1073741824
 vs : l.screens.length < 1073741824
 ks : l.keys.length < 1073741824
 rs : l.recalled.length < 1073741824
 ca : ∀ c ∈ l.comps, c.assets.length < 1073741824
 vd : ∀ s ∈ l.screens, s.devs.length < 1073741824
 vf : ∀ s ∈ l.screens, s.files.length < 1073741824
 kd : DvB l.keys
def screenOK (s : Sv) : Bool := inR s.id 0 99 && (inR (s.devs.length : Int) 1 6 && (ascL s.devs && (!(decide (20 < (s.files.length : Int))) && filesL s.files)))
def keyOK (k : Ky) : Bool := inR k.id 0 99 && (inR k.comp 0 99 && (!(decide (12 < (k.devs.length : Int))) && (ascL k.devs && (!(decide (k.fr < 0)) && (!(decide (k.to < k.fr)) && !(decide (9999 < k.to)))))))
def tooMany (l : Lb) : Bool := decide (12 < (l.assets.length : Int)) || (decide (8 < (l.comps.length : Int)) || (decide (6 < (l.screens.length : Int)) || (decide (20 < (l.keys.length : Int)) || decide (20 < (l.recalled.length : Int)))))
def libOK (l : Lb) : Bool := !(tooMany l) && (filesL l.assets && (okFrom Cm.id (compOK l.assets) l.comps 0 l.comps && (okFrom Sv.id screenOK l.screens 0 l.screens && (l.keys.all keyOK && l.recalled.all fun n => inR n 0 99))))
theorem isLibrary_ok (l : Lb) (hB : LbB l) : RV ft 55 [encL l] (.bool (libOK l)) := by
 refine RV_of ft55 rfl ?_
 simp only [c55, r55]
 obtain ⟨S, hS⟩ : ∃ S, S = libOK l := ⟨_, rfl⟩
 rw [← hS]
 cases h1 : decide (12 < (l.assets.length : Int))
 case true => simp only [go_sem, Nat.reduceEqDiff, Nat.reduceAdd, Nat.reduceLT, Nat.reduceLeDiff, reduceIte, LbCells, h1]; rw [hS]; simp [libOK, tooMany, h1]
 cases h2 : decide (8 < (l.comps.length : Int))
 case true => simp only [go_sem, Nat.reduceEqDiff, Nat.reduceAdd, Nat.reduceLT, Nat.reduceLeDiff, reduceIte, LbCells, h1, h2]; rw [hS]; simp [libOK, tooMany, h1, h2]
 cases h3 : decide (6 < (l.screens.length : Int))
 case true => simp only [go_sem, Nat.reduceEqDiff, Nat.reduceAdd, Nat.reduceLT, Nat.reduceLeDiff, reduceIte, LbCells, h1, h2, h3]; rw [hS]; simp [libOK, tooMany, h1, h2, h3]
 cases h4 : decide (20 < (l.keys.length : Int))
 case true => simp only [go_sem, Nat.reduceEqDiff, Nat.reduceAdd, Nat.reduceLT, Nat.reduceLeDiff, reduceIte, LbCells, h1, h2, h3, h4]; rw [hS]; simp [libOK, tooMany, h1, h2, h3, h4]
 cases h5 : decide (20 < (l.recalled.length : Int))
 case true => simp only [go_sem, Nat.reduceEqDiff, Nat.reduceAdd, Nat.reduceLT, Nat.reduceLeDiff, reduceIte, LbCells, h1, h2, h3, h4, h5]; rw [hS]; simp [libOK, tooMany, h1, h2, h3, h4, h5]
 cases h6 : filesL l.assets
 case false => simp only [go_sem, Nat.reduceEqDiff, Nat.reduceAdd, Nat.reduceLT, Nat.reduceLeDiff, reduceIte, LbCells, h1, h2, h3, h4, h5, WB95, WVH_eq (files_ok l.assets hB.as), h6, true_and]; rw [hS]; simp [libOK, h6]
 simp only [go_sem, Nat.reduceEqDiff, Nat.reduceAdd, Nat.reduceLT, Nat.reduceLeDiff, reduceIte, LbCells, h1, h2, h3, h4, h5, WB95, WVH_eq (files_ok l.assets hB.as), h6, true_and]
 have hlcs := hB.cs
 have hlvs := hB.vs
 have hlks := hB.ks
 have hlrs := hB.rs
 have htm : tooMany l = false := by simp only [tooMany, h1, h2, h3, h4, h5]; rfl
 refine WL_inv (α := Nat × List Cm) (fun q e mm => e 1 = .ptr 0 0 0 ∧ e 3 = I64 q.1 ∧ l.comps.drop q.1 = q.2 ∧ mm = ⟨[.live [encL l] 5], []⟩ ∧ okFrom Cm.id (compOK l.assets) l.comps q.1 q.2 = okFrom Cm.id (compOK l.assets) l.comps 0 l.comps) (fun q => q.2.length) (0, l.comps) ?_ ?_
 ·simp only [go_sem, Nat.reduceEqDiff, Nat.reduceAdd, Nat.reduceLT, Nat.reduceLeDiff, reduceIte]
  ((repeat' apply And.intro) <;> first | trivial | rfl | omega | assumption)
 rintro ⟨k, r⟩ e m ⟨g1, g3, hd, rfl, hq⟩
 dsimp only at g3 hd hq
 cases r
 case cons x r =>
  obtain ⟨hk, hd2, hlt⟩ := drop_cons hd
  have hxm : x ∈ l.comps := List.mem_of_getElem? hk
  cases hx : compOK l.assets x
  case false =>
   simp only [go_sem, Nat.reduceEqDiff, Nat.reduceAdd, Nat.reduceLT, Nat.reduceLeDiff, reduceIte, g1, g3, LbCells, dec_lt hlt, encCs_idx hk, CmCells, CmEta, WB96, WVH_eq (isComp_ok l.assets x hB.as (hB.ca x hxm)), hx, true_and]
   rw [hS]; simp only [libOK, ← hq, okFrom, hx]; simp
  simp only [go_sem, Nat.reduceEqDiff, Nat.reduceAdd, Nat.reduceLT, Nat.reduceLeDiff, reduceIte, g1, g3, LbCells, dec_lt hlt, encCs_idx hk, CmCells, CmEta, WB96, WVH_eq (isComp_ok l.assets x hB.as (hB.ca x hxm)), hx, true_and]
  refine WL_inv (α := Nat) (fun j e mm => e 1 = .ptr 0 0 0 ∧ e 3 = I64 k ∧ e 4 = I64 j ∧ j ≤ k ∧ mm = ⟨[.live [encL l] 5], []⟩ ∧ ((l.comps.take j).any fun y => y.id == x.id) = false) (fun j => k - j) 0 ?_ ?_
  ·simp only [go_sem, Nat.reduceEqDiff, Nat.reduceAdd, Nat.reduceLT, Nat.reduceLeDiff, reduceIte, g1, g3]
   ((repeat' apply And.intro) <;> first | trivial | rfl | omega | assumption)
  rintro j e2 m2 ⟨f1, f3, f4, hjk, rfl, ha⟩
  by_cases hj : j < k
  ·obtain ⟨y, hy⟩ : ∃ y, l.comps[j]? = some y := ⟨l.comps[j], by simp⟩
   cases hxy : (y.id == x.id)
   ·simp only [go_sem, Nat.reduceEqDiff, Nat.reduceAdd, Nat.reduceLT, Nat.reduceLeDiff, reduceIte, f1, f3, f4, LbCells, dec_lt hj, encCs_idx hk, encCs_idx hy, CmCells, hxy, wrap_n1 j (by omega)]
    refine Nx_of (j + 1) (by first | omega | (dsimp only; omega)) ?_
    simp only [go_sem, Nat.reduceEqDiff, Nat.reduceAdd, Nat.reduceLT, Nat.reduceLeDiff, reduceIte, f1, f3]
    exact ⟨trivial, trivial, trivial, by omega, trivial, by rw [any_take_succ hy, ha, hxy]; rfl⟩
   ·simp only [go_sem, Nat.reduceEqDiff, Nat.reduceAdd, Nat.reduceLT, Nat.reduceLeDiff, reduceIte, f1, f3, f4, LbCells, dec_lt hj, encCs_idx hk, encCs_idx hy, CmCells, hxy]
    have : ((l.comps.take k).any fun y => y.id == x.id) = true := any_take_lt hj hy hxy
    rw [hS]; simp only [libOK, ← hq, okFrom, hx, this]; simp
  ·obtain rfl : j = k := by omega
   simp only [go_sem, Nat.reduceEqDiff, Nat.reduceAdd, Nat.reduceLT, Nat.reduceLeDiff, reduceIte, f1, f3, f4, show decide ((j : Int) < (j : Int)) = false from decide_eq_false (by omega), wrap_n1 j (by omega)]
   refine Nx_of (j + 1, r) (by simp) ?_
   simp only [go_sem, Nat.reduceEqDiff, Nat.reduceAdd, Nat.reduceLT, Nat.reduceLeDiff, reduceIte, f1]
   exact ⟨trivial, trivial, hd2, trivial, by rw [← hq]; simp only [okFrom, hx, ha]; rfl⟩
 have hz := drop_nil hd
 have hcm : okFrom Cm.id (compOK l.assets) l.comps 0 l.comps = true := by rw [← hq]; rfl
 simp only [go_sem, Nat.reduceEqDiff, Nat.reduceAdd, Nat.reduceLT, Nat.reduceLeDiff, reduceIte, g1, g3, LbCells, dec_ge hz]
 clear hd hq hz
 refine WL_inv (α := Nat × List Sv) (fun q e mm => e 1 = .ptr 0 0 0 ∧ e 5 = I64 q.1 ∧ l.screens.drop q.1 = q.2 ∧ mm.blks[0]? = some (.live [encL l] 5) ∧ okFrom Sv.id screenOK l.screens q.1 q.2 = okFrom Sv.id screenOK l.screens 0 l.screens) (fun q => q.2.length) (0, l.screens) ?_ ?_
 ·simp only [go_sem, Nat.reduceEqDiff, Nat.reduceAdd, Nat.reduceLT, Nat.reduceLeDiff, reduceIte, g1]
  ((repeat' apply And.intro) <;> first | trivial | rfl | omega | assumption)
 clear g1 g3 e
 rintro ⟨k, r⟩ e ⟨bl, tk⟩ ⟨g1, g3, hd, hb, hq⟩
 dsimp only at g3 hd hq hb
 cases r
 case cons x r =>
  obtain ⟨hk, hd2, hlt⟩ := drop_cons hd
  have hxm : x ∈ l.screens := List.mem_of_getElem? hk
  have hbx : (bl ++ [Blk.live [encV x] 3])[0]? = some (.live [encL l] 5) := get_app1 hb _
  have hbad : screenOK x = false → S = false := fun h => by rw [hS]; simp only [libOK, ← hq, okFrom, h]; simp
  cases c1 : inR x.id 0 99
  case false =>
   simp only [go_sem, Nat.reduceEqDiff, Nat.reduceAdd, Nat.reduceLT, Nat.reduceLeDiff, reduceIte, g1, g3, hb, LbCells, dec_lt hlt, encVs_idx hk, SvCells, SvEta, WB73, WVH_eq (within_ok x.id 0 99), c1, true_and]
   rw [hbad (by simp [screenOK, c1])]
  cases c2 : inR (x.devs.length : Int) 1 6
  case false =>
   simp only [go_sem, Nat.reduceEqDiff, Nat.reduceAdd, Nat.reduceLT, Nat.reduceLeDiff, reduceIte, g1, g3, hb, LbCells, dec_lt hlt, encVs_idx hk, SvCells, SvEta, WB73, WVH_eq (within_ok x.id 0 99), WVH_eq (within_ok (x.devs.length : Int) 1 6), c1, c2, true_and]
   rw [hbad (by simp [screenOK, c1, c2])]
  cases c3 : ascL x.devs
  case false =>
   simp only [go_sem, Nat.reduceEqDiff, Nat.reduceAdd, Nat.reduceLT, Nat.reduceLeDiff, reduceIte, g1, g3, hb, LbCells, dec_lt hlt, encVs_idx hk, SvCells, SvEta, WB73, WVH_eq (within_ok x.id 0 99), WVH_eq (within_ok (x.devs.length : Int) 1 6), c1, c2, WB97, WVH_eq (asc_ok x.devs (hB.vd x hxm)), c3, true_and]
   rw [hbad (by simp [screenOK, c1, c2, c3])]
  cases c4 : decide (20 < (x.files.length : Int))
  case true =>
   simp only [go_sem, Nat.reduceEqDiff, Nat.reduceAdd, Nat.reduceLT, Nat.reduceLeDiff, reduceIte, g1, g3, hb, LbCells, dec_lt hlt, encVs_idx hk, SvCells, SvEta, WB73, WVH_eq (within_ok x.id 0 99), WVH_eq (within_ok (x.devs.length : Int) 1 6), c1, c2, WB97, WVH_eq (asc_ok x.devs (hB.vd x hxm)), c3, c4, true_and]
   rw [hbad (by simp [screenOK, c1, c2, c3, c4])]
  cases c5 : filesL x.files
  case false =>
   simp only [go_sem, Nat.reduceEqDiff, Nat.reduceAdd, Nat.reduceLT, Nat.reduceLeDiff, reduceIte, g1, g3, hb, LbCells, dec_lt hlt, encVs_idx hk, SvCells, SvEta, WB73, WVH_eq (within_ok x.id 0 99), WVH_eq (within_ok (x.devs.length : Int) 1 6), c1, c2, WB97, WVH_eq (asc_ok x.devs (hB.vd x hxm)), c3, c4, WB95, WVH_eq (files_ok x.files (hB.vf x hxm)), c5, true_and]
   rw [hbad (by simp [screenOK, c1, c2, c3, c4, c5])]
  have hx : screenOK x = true := by simp only [screenOK, c1, c2, c3, c4, c5]; rfl
  simp only [go_sem, Nat.reduceEqDiff, Nat.reduceAdd, Nat.reduceLT, Nat.reduceLeDiff, reduceIte, g1, g3, hb, LbCells, dec_lt hlt, encVs_idx hk, SvCells, SvEta, WB73, WVH_eq (within_ok x.id 0 99), WVH_eq (within_ok (x.devs.length : Int) 1 6), c1, c2, WB97, WVH_eq (asc_ok x.devs (hB.vd x hxm)), c3, c4, WB95, WVH_eq (files_ok x.files (hB.vf x hxm)), c5, true_and]
  refine WL_inv (α := Nat) (fun j e mm => e 1 = .ptr 0 0 0 ∧ e 5 = I64 k ∧ e 6 = .ptr bl.length 0 0 ∧ e 7 = I64 j ∧ j ≤ k ∧ mm = ⟨bl ++ [.live [encV x] 3], tk⟩ ∧ ((l.screens.take j).any fun y => y.id == x.id) = false) (fun j => k - j) 0 ?_ ?_
  ·simp only [go_sem, Nat.reduceEqDiff, Nat.reduceAdd, Nat.reduceLT, Nat.reduceLeDiff, reduceIte, g1, g3]
   ((repeat' apply And.intro) <;> first | trivial | rfl | omega | assumption)
  rintro j e2 m2 ⟨f1, f3, f6, f4, hjk, rfl, ha⟩
  by_cases hj : j < k
  ·obtain ⟨y, hy⟩ : ∃ y, l.screens[j]? = some y := ⟨l.screens[j], by simp⟩
   cases hxy : (y.id == x.id)
   ·simp only [go_sem, Nat.reduceEqDiff, Nat.reduceAdd, Nat.reduceLT, Nat.reduceLeDiff, reduceIte, f1, f3, f4, f6, hbx, LbCells, dec_lt hj, encVs_idx hk, encVs_idx hy, SvCells, hxy, wrap_n1 j (by omega)]
    refine Nx_of (j + 1) (by first | omega | (dsimp only; omega)) ?_
    simp only [go_sem, Nat.reduceEqDiff, Nat.reduceAdd, Nat.reduceLT, Nat.reduceLeDiff, reduceIte, f1, f3, f6]
    exact ⟨trivial, trivial, trivial, trivial, by omega, trivial, by rw [any_take_succ hy, ha, hxy]; rfl⟩
   ·simp only [go_sem, Nat.reduceEqDiff, Nat.reduceAdd, Nat.reduceLT, Nat.reduceLeDiff, reduceIte, f1, f3, f4, f6, hbx, LbCells, dec_lt hj, encVs_idx hk, encVs_idx hy, SvCells, hxy]
    have : ((l.screens.take k).any fun y => y.id == x.id) = true := any_take_lt hj hy hxy
    rw [hS]; simp only [libOK, ← hq, okFrom, hx, this]; simp
  ·obtain rfl : j = k := by omega
   simp only [go_sem, Nat.reduceEqDiff, Nat.reduceAdd, Nat.reduceLT, Nat.reduceLeDiff, reduceIte, f1, f3, f4, f6, show decide ((j : Int) < (j : Int)) = false from decide_eq_false (by omega), wrap_n1 j (by omega)]
   refine Nx_of (j + 1, r) (by simp) ?_
   simp only [go_sem, Nat.reduceEqDiff, Nat.reduceAdd, Nat.reduceLT, Nat.reduceLeDiff, reduceIte, f1]
   exact ⟨trivial, trivial, hd2, hbx, by rw [← hq]; simp only [okFrom, hx, ha]; rfl⟩
 have hz := drop_nil hd
 have hvs : okFrom Sv.id screenOK l.screens 0 l.screens = true := by rw [← hq]; rfl
 simp only [go_sem, Nat.reduceEqDiff, Nat.reduceAdd, Nat.reduceLT, Nat.reduceLeDiff, reduceIte, g1, g3, hb, LbCells, dec_ge hz]
 clear hd hq hz
 refine WL_inv (α := Nat × List Ky) (fun q e mm => e 1 = .ptr 0 0 0 ∧ e 8 = I64 q.1 ∧ l.keys.drop q.1 = q.2 ∧ mm.blks[0]? = some (.live [encL l] 5) ∧ q.2.all keyOK = l.keys.all keyOK) (fun q => q.2.length) (0, l.keys) ?_ ?_
 ·simp only [go_sem, Nat.reduceEqDiff, Nat.reduceAdd, Nat.reduceLT, Nat.reduceLeDiff, reduceIte, g1]
  ((repeat' apply And.intro) <;> first | trivial | rfl | omega | assumption)
 clear g1 g3 e hb bl tk
 rintro ⟨k, r⟩ e ⟨bl, tk⟩ ⟨g1, g3, hd, hb, hq⟩
 dsimp only at g3 hd hq hb
 cases r
 case cons x r =>
  obtain ⟨hk, hd2, hlt⟩ := drop_cons hd
  have hxm : x ∈ l.keys := List.mem_of_getElem? hk
  have hbx : (bl ++ [Blk.live [encK x] 5])[0]? = some (.live [encL l] 5) := get_app1 hb _
  have hbad : keyOK x = false → S = false := fun h => by rw [hS]; simp only [libOK, ← hq, List.all_cons, h]; simp
  cases c1 : inR x.id 0 99
  case false =>
   simp only [go_sem, Nat.reduceEqDiff, Nat.reduceAdd, Nat.reduceLT, Nat.reduceLeDiff, reduceIte, g1, g3, hb, LbCells, dec_lt hlt, encYs_idx hk, KyCells, KyEta, WB73, WVH_eq (within_ok x.id 0 99), c1, true_and]
   rw [hbad (by simp [keyOK, c1])]
  cases c2 : inR x.comp 0 99
  case false =>
   simp only [go_sem, Nat.reduceEqDiff, Nat.reduceAdd, Nat.reduceLT, Nat.reduceLeDiff, reduceIte, g1, g3, hb, LbCells, dec_lt hlt, encYs_idx hk, KyCells, KyEta, WB73, WVH_eq (within_ok x.id 0 99), WVH_eq (within_ok x.comp 0 99), c1, c2, true_and]
   rw [hbad (by simp [keyOK, c1, c2])]
  cases c3 : decide (12 < (x.devs.length : Int))
  case true =>
   simp only [go_sem, Nat.reduceEqDiff, Nat.reduceAdd, Nat.reduceLT, Nat.reduceLeDiff, reduceIte, g1, g3, hb, LbCells, dec_lt hlt, encYs_idx hk, KyCells, KyEta, WB73, WVH_eq (within_ok x.id 0 99), WVH_eq (within_ok x.comp 0 99), c1, c2, c3, true_and]
   rw [hbad (by simp [keyOK, c1, c2, c3])]
  cases c4 : ascL x.devs
  case false =>
   simp only [go_sem, Nat.reduceEqDiff, Nat.reduceAdd, Nat.reduceLT, Nat.reduceLeDiff, reduceIte, g1, g3, hb, LbCells, dec_lt hlt, encYs_idx hk, KyCells, KyEta, WB73, WVH_eq (within_ok x.id 0 99), WVH_eq (within_ok x.comp 0 99), c1, c2, c3, WB97, WVH_eq (asc_ok x.devs (hB.kd x hxm)), c4, true_and]
   rw [hbad (by simp [keyOK, c1, c2, c3, c4])]
  cases c5 : decide (x.fr < 0)
  case true =>
   simp only [go_sem, Nat.reduceEqDiff, Nat.reduceAdd, Nat.reduceLT, Nat.reduceLeDiff, reduceIte, g1, g3, hb, LbCells, dec_lt hlt, encYs_idx hk, KyCells, KyEta, WB73, WVH_eq (within_ok x.id 0 99), WVH_eq (within_ok x.comp 0 99), c1, c2, c3, WB97, WVH_eq (asc_ok x.devs (hB.kd x hxm)), c4, c5, true_and]
   rw [hbad (by simp [keyOK, c1, c2, c3, c4, c5])]
  cases c6 : decide (x.to < x.fr)
  case true =>
   simp only [go_sem, Nat.reduceEqDiff, Nat.reduceAdd, Nat.reduceLT, Nat.reduceLeDiff, reduceIte, g1, g3, hb, LbCells, dec_lt hlt, encYs_idx hk, KyCells, KyEta, WB73, WVH_eq (within_ok x.id 0 99), WVH_eq (within_ok x.comp 0 99), c1, c2, c3, WB97, WVH_eq (asc_ok x.devs (hB.kd x hxm)), c4, c5, c6, true_and]
   rw [hbad (by simp [keyOK, c1, c2, c3, c4, c5, c6])]
  cases c7 : decide (9999 < x.to)
  case true =>
   simp only [go_sem, Nat.reduceEqDiff, Nat.reduceAdd, Nat.reduceLT, Nat.reduceLeDiff, reduceIte, g1, g3, hb, LbCells, dec_lt hlt, encYs_idx hk, KyCells, KyEta, WB73, WVH_eq (within_ok x.id 0 99), WVH_eq (within_ok x.comp 0 99), c1, c2, c3, WB97, WVH_eq (asc_ok x.devs (hB.kd x hxm)), c4, c5, c6, c7, true_and]
   rw [hbad (by simp [keyOK, c1, c2, c3, c4, c5, c6, c7])]
  have hx : keyOK x = true := by simp only [keyOK, c1, c2, c3, c4, c5, c6, c7]; rfl
  simp only [go_sem, Nat.reduceEqDiff, Nat.reduceAdd, Nat.reduceLT, Nat.reduceLeDiff, reduceIte, g1, g3, hb, LbCells, dec_lt hlt, encYs_idx hk, KyCells, KyEta, WB73, WVH_eq (within_ok x.id 0 99), WVH_eq (within_ok x.comp 0 99), c1, c2, c3, WB97, WVH_eq (asc_ok x.devs (hB.kd x hxm)), c4, c5, c6, c7, true_and, wrap_n1 k (by omega)]
  refine Nx_of (k + 1, r) (by simp) ?_
  simp only [go_sem, Nat.reduceEqDiff, Nat.reduceAdd, Nat.reduceLT, Nat.reduceLeDiff, reduceIte, g1]
  exact ⟨trivial, trivial, hd2, hbx, by rw [← hq]; simp only [List.all_cons, hx]; rfl⟩
 have hz := drop_nil hd
 have hks : l.keys.all keyOK = true := by rw [← hq]; rfl
 simp only [go_sem, Nat.reduceEqDiff, Nat.reduceAdd, Nat.reduceLT, Nat.reduceLeDiff, reduceIte, g1, g3, hb, LbCells, dec_ge hz]
 clear hd hq hz
 refine WL_inv (α := Nat × List Int) (fun q e mm => e 1 = .ptr 0 0 0 ∧ e 10 = I64 q.1 ∧ l.recalled.drop q.1 = q.2 ∧ mm.blks[0]? = some (.live [encL l] 5) ∧ (q.2.all fun n => inR n 0 99) = (l.recalled.all fun n => inR n 0 99)) (fun q => q.2.length) (0, l.recalled) ?_ ?_
 ·simp only [go_sem, Nat.reduceEqDiff, Nat.reduceAdd, Nat.reduceLT, Nat.reduceLeDiff, reduceIte, g1]
  ((repeat' apply And.intro) <;> first | trivial | rfl | omega | assumption)
 clear g1 g3 e hb bl tk
 rintro ⟨k, r⟩ e ⟨bl, tk⟩ ⟨g1, g3, hd, hb, hq⟩
 dsimp only at g3 hd hq hb
 cases r
 case cons x r =>
  obtain ⟨hk, hd2, hlt⟩ := drop_cons hd
  cases c1 : inR x 0 99
  case false =>
   simp only [go_sem, Nat.reduceEqDiff, Nat.reduceAdd, Nat.reduceLT, Nat.reduceLeDiff, reduceIte, g1, g3, hb, LbCells, dec_lt hlt, encI_idx hk, WB73, WVH_eq (within_ok x 0 99), c1, true_and]
   rw [hS]; simp only [libOK, ← hq, List.all_cons, c1]; simp
  simp only [go_sem, Nat.reduceEqDiff, Nat.reduceAdd, Nat.reduceLT, Nat.reduceLeDiff, reduceIte, g1, g3, hb, LbCells, dec_lt hlt, encI_idx hk, WB73, WVH_eq (within_ok x 0 99), c1, true_and, wrap_n1 k (by omega)]
  refine Nx_of (k + 1, r) (by simp) ?_
  simp only [go_sem, Nat.reduceEqDiff, Nat.reduceAdd, Nat.reduceLT, Nat.reduceLeDiff, reduceIte, g1]
  exact ⟨trivial, trivial, hd2, hb, by rw [← hq]; simp only [List.all_cons, c1]; rfl⟩
 have hz := drop_nil hd
 have hrs : (l.recalled.all fun n => inR n 0 99) = true := by rw [← hq]; rfl
 simp only [go_sem, Nat.reduceEqDiff, Nat.reduceAdd, Nat.reduceLT, Nat.reduceLeDiff, reduceIte, g1, g3, hb, LbCells, dec_ge hz]
 rw [hS]
 simp only [libOK, htm, h6, hcm, hvs, hks, hrs]
 rfl
theorem snYs (m : Mem) (q : Nat) (l : List Ky) : snap m (q + 4) (encYs l) = encYs l := snKs m q l
theorem hotYs (q : Nat) (l : List Ky) : hot (q + 4) (encYs l) = false := hotKs q l
theorem clashRy_ok (l : List Ky) (hl : l.length < 1073741824) (hd' : DvB l) : RV ft 56 [encYs l] (.bool (clashF l 0 l)) := clashR_ok l hl hd'
def checkE (l : Lb) : Int := if libOK l then (if clashF l.keys 0 l.keys then 21 else 0) else 20
theorem CheckR_ok (l : Lb) (hB : LbB l) : RV ft 27 [encL l] (I64 (checkE l)) := by
 refine RV_of ft27 rfl ?_
 simp only [c27, r27]
 unfold checkE
 cases h1 : libOK l
 case false => simp only [go_sem, Nat.reduceEqDiff, Nat.reduceAdd, Nat.reduceLT, Nat.reduceLeDiff, reduceIte, LbCells, LbEta, WB55, WVH_eq (isLibrary_ok l hB), h1, true_and] <;> rfl
 cases h2 : clashF l.keys 0 l.keys
 ·simp only [go_sem, Nat.reduceEqDiff, Nat.reduceAdd, Nat.reduceLT, Nat.reduceLeDiff, reduceIte, LbCells, LbEta, WB55, WVH_eq (isLibrary_ok l hB), h1, WB56, snYs, hotYs, WVH_eq (clashRy_ok l.keys hB.ks hB.kd), h2, true_and] <;> rfl
 ·simp only [go_sem, Nat.reduceEqDiff, Nat.reduceAdd, Nat.reduceLT, Nat.reduceLeDiff, reduceIte, LbCells, LbEta, WB55, WVH_eq (isLibrary_ok l hB), h1, WB56, snYs, hotYs, WVH_eq (clashRy_ok l.keys hB.ks hB.kd), h2, true_and] <;> rfl
def Frm (n0 : Nat) (m m' : Mem) : Prop := m.blks.length ≤ m'.blks.length ∧ ∀ i, n0 ≤ i → i < m.blks.length → m'.blks[i]? = m.blks[i]?
theorem Frm.refl (n0 : Nat) (m : Mem) : Frm n0 m m := ⟨Nat.le_refl _, fun _ _ _ => rfl⟩
theorem SpEta (s : Sp) : AV.agg [I64 s.lo, I64 s.hi] = encSp s := rfl
theorem SpCells (s : Sp) : (encSp s).cells = [I64 s.lo, I64 s.hi] := rfl
theorem encSs_solid (l : List Sp) : (encSs l).solid = true := rfl
theorem encSs_len (m : Mem) (l : List Sp) : lenAt m (encSs l) = some (I64 (l.length : Int)) := by simp [encSs, lenAt]
theorem encSs_idx {l : List Sp} {k : Nat} {x : Sp} (h : l[k]? = some x) (m : Mem) : idxAt m (encSs l) (I64 (k : Int)) 2 = some (.pv (encSp x) 0) := by
 unfold encSs; rw [idxAt_sl, if_pos (by omega), Int.toNat_natCast, List.getElem?_map, h]; rfl
theorem get_appL {bl : List Blk} {i : Nat} {b : Blk} (h : bl[i]? = some b) (c : List Blk) : (bl ++ c)[i]? = some b := by
 rw [List.getElem?_append_left (List.getElem?_eq_some_iff.1 h).1]; exact h
theorem first126_run {l : List Fl} {f : AV} {p : Nat → Bool} {J : Nat → Mem → Prop} {n0 : Nat} (hl : l.length < 1073741824)
  (hpush : ∀ k bl tk b, J k ⟨bl, tk⟩ → J k ⟨bl ++ [b], tk⟩) (hset : ∀ k bl tk i b, n0 ≤ i → J k ⟨bl, tk⟩ → J k ⟨bl.set i b, tk⟩)
  (hf : ∀ (k : Nat) (x : Fl) (e : Nat → AV) (m : Mem) (K : AV → St → Prop), l[k]? = some x → n0 ≤ m.blks.length → J k m → (∀ m', J (k + 1) m' → Frm n0 m m' → K (.bool (p k)) ⟨e, m'⟩) → @WAH ft f [encF x] ⟨e, m⟩ ⟨K⟩)
  (m : Mem) (hm : m.blks.length = n0) (h0 : J 0 m) (K : AV → Mem → Prop)
  (hyes : ∀ (k : Nat) (x : Fl) (m' : Mem), l[k]? = some x → p k = true → (∀ j, j < k → p j = false) → J (k + 1) m' → n0 ≤ m'.blks.length → K (.tup [encF x, .bool true]) m')
  (hno : ∀ m' : Mem, (∀ j, j < l.length → p j = false) → J l.length m' → n0 ≤ m'.blks.length → K (.tup [.agg [I64 0, I64 0], .bool false]) m') : WR ft (.f 126) [encFs l, f] m K := by
 rw [WR_f ft126 rfl]
 simp only [c126, r126]
 obtain ⟨bl0, tk0⟩ := m
 have hw : ∀ x : Fl, writeCells (.agg [I64 0, I64 0]) 0 [I64 x.id, I64 x.sum] = some (encF x) := fun _ => rfl
 have hwz : writeCells (.agg [I64 0, I64 0]) 0 [I64 0, I64 0] = some (.agg [I64 0, I64 0]) := rfl
 dsimp only at hm
 subst hm
 simp only [go_sem, Nat.reduceEqDiff, Nat.reduceAdd, Nat.reduceLT, Nat.reduceLeDiff, reduceIte]
 refine WL_inv (α := Nat) (fun k e mm => e 1 = f ∧ e 4 = .ptr bl0.length 0 0 ∧ e 9 = encFs l ∧ e 10 = I64 l.length ∧ e 11 = I64 k ∧ k ≤ l.length ∧ (∀ j, j < k → p j = false) ∧ J k mm ∧ bl0.length ≤ mm.blks.length ∧ mm.blks[bl0.length]? = some (.live [.agg [I64 0, I64 0]] 2)) (fun k => l.length - k) 0 ?_ ?_
 ·simp only [go_sem, Nat.reduceEqDiff, Nat.reduceAdd, Nat.reduceLT, Nat.reduceLeDiff, reduceIte]
  exact ⟨trivial, trivial, trivial, trivial, rfl, Nat.zero_le _, fun j hj => absurd hj (Nat.not_lt_zero j), hpush _ _ _ _ h0, by simp, by first | trivial | rfl⟩
 rintro k e ⟨bl, tk⟩ ⟨g1, g4, g9, g10, g11, hk, hp, hJ, hlen, hb⟩
 dsimp only at hlen hb
 by_cases hkl : k < l.length
 case pos =>
  obtain ⟨x, hx⟩ : ∃ x, l[k]? = some x := ⟨l[k], by simp [hkl]⟩
  simp only [go_sem, Nat.reduceEqDiff, Nat.reduceAdd, Nat.reduceLT, Nat.reduceLeDiff, reduceIte, g1, g4, g9, g10, g11, dec_lt hkl, encFs_idx hx, FlCells, FlEta,  List.getElem?_append_right, Nat.sub_self, Nat.le_refl]
  refine hf k x _ _ _ hx (by simp; omega) ?_ fun m' hJ' hF => ?_
  ·exact hpush _ _ _ _ hJ
  obtain ⟨bl', tk'⟩ := m'
  obtain ⟨hF1, hF2⟩ := hF
  dsimp only at hF1 hF2
  have hb' : bl'[bl0.length]? = some (.live [.agg [I64 0, I64 0]] 2) := by
   rw [hF2 _ (Nat.le_refl _) (by have := (List.getElem?_eq_some_iff.1 hb).1; simp; omega)]
   exact get_appL hb _
  have hx' : bl'[bl.length]? = some (.live [encF x] 2) := by
   rw [hF2 _ hlen (by simp)]; simp
  have hbl' : bl0.length ≤ bl'.length := by simp at hF1; omega
  cases hpk : p k
  ·simp only [go_sem, Nat.reduceEqDiff, Nat.reduceAdd, Nat.reduceLT, Nat.reduceLeDiff, reduceIte, g1, g4, g9, g10, g11, hpk, wrap_n1 k (by omega)]
   refine Nx_of (k + 1) (by first | omega | (dsimp only; omega)) ?_
   simp only [go_sem, Nat.reduceEqDiff, Nat.reduceAdd, Nat.reduceLT, Nat.reduceLeDiff, reduceIte, g1, g4, g9, g10]
   exact ⟨trivial, trivial, trivial, trivial, trivial, by omega, fun j hj => (by
    by_cases hjk : j = k
    ·subst hjk; exact hpk
    ·exact hp j (by omega)), hJ', hbl', hb'⟩
  ·have hlt : bl0.length < bl'.length := (List.getElem?_eq_some_iff.1 hb').1
   simp only [go_sem, Nat.reduceEqDiff, Nat.reduceAdd, Nat.reduceLT, Nat.reduceLeDiff, reduceIte, g1, g4, g9, g10, g11, hpk, hb', hx', FlCells, FlEta,  hw, List.getElem?_set_self hlt]
   exact hyes k x _ hx hpk hp (hset _ _ _ _ _ (Nat.le_refl _) hJ') (by simp; exact hbl')
 obtain rfl : k = l.length := by omega
 have hlt : bl0.length < bl.length := (List.getElem?_eq_some_iff.1 hb).1
 have hlt2 : bl0.length < (bl ++ [Blk.live [.agg [I64 0, I64 0]] 2]).length := by simp; omega
 have hb2 : (bl ++ [Blk.live [.agg [I64 0, I64 0]] 2])[bl0.length]? = some (.live [.agg [I64 0, I64 0]] 2) := get_appL hb _
 simp only [go_sem, Nat.reduceEqDiff, Nat.reduceAdd, Nat.reduceLT, Nat.reduceLeDiff, reduceIte, g1, g4, g9, g10, g11, show decide ((l.length : Int) < (l.length : Int)) = false from decide_eq_false (by omega), hwz, hb2,  List.getElem?_set_self hlt2]
 exact hno _ hp (hset _ _ _ _ _ (Nat.le_refl _) (hpush _ _ _ _ hJ)) (by simp; omega)
theorem first124_run {l : List Cm} {f : AV} {p : Nat → Bool} {J : Nat → Mem → Prop} {n0 : Nat} (hl : l.length < 1073741824)
  (hpush : ∀ k bl tk b, J k ⟨bl, tk⟩ → J k ⟨bl ++ [b], tk⟩) (hset : ∀ k bl tk i b, n0 ≤ i → J k ⟨bl, tk⟩ → J k ⟨bl.set i b, tk⟩)
  (hf : ∀ (k : Nat) (x : Cm) (e : Nat → AV) (m : Mem) (K : AV → St → Prop), l[k]? = some x → n0 ≤ m.blks.length → J k m → (∀ m', J (k + 1) m' → Frm n0 m m' → K (.bool (p k)) ⟨e, m'⟩) → @WAH ft f [encC x] ⟨e, m⟩ ⟨K⟩)
  (m : Mem) (hm : m.blks.length = n0) (h0 : J 0 m) (K : AV → Mem → Prop)
  (hyes : ∀ (k : Nat) (x : Cm) (m' : Mem), l[k]? = some x → p k = true → (∀ j, j < k → p j = false) → J (k + 1) m' → n0 ≤ m'.blks.length → K (.tup [encC x, .bool true]) m')
  (hno : ∀ m' : Mem, (∀ j, j < l.length → p j = false) → J l.length m' → n0 ≤ m'.blks.length → K (.tup [.agg [I64 0, I64 0, I64 0, I64 0, I64 0, .bool false, .sl [] .tight], .bool false]) m') : WR ft (.f 124) [encCs l, f] m K := by
 rw [WR_f ft124 rfl]
 simp only [c124, r124]
 obtain ⟨bl0, tk0⟩ := m
 have hw : ∀ x : Cm, writeCells (.agg [I64 0, I64 0, I64 0, I64 0, I64 0, .bool false, .sl [] .tight]) 0 [I64 x.id, I64 x.film, I64 x.tongue, I64 x.subs, I64 x.mins, .bool x.locked, encI x.assets] = some (encC x) := fun _ => rfl
 have hwz : writeCells (.agg [I64 0, I64 0, I64 0, I64 0, I64 0, .bool false, .sl [] .tight]) 0 [I64 0, I64 0, I64 0, I64 0, I64 0, .bool false, .sl [] .tight] = some (.agg [I64 0, I64 0, I64 0, I64 0, I64 0, .bool false, .sl [] .tight]) := rfl
 dsimp only at hm
 subst hm
 simp only [go_sem, Nat.reduceEqDiff, Nat.reduceAdd, Nat.reduceLT, Nat.reduceLeDiff, reduceIte]
 refine WL_inv (α := Nat) (fun k e mm => e 1 = f ∧ e 4 = .ptr bl0.length 0 0 ∧ e 9 = encCs l ∧ e 10 = I64 l.length ∧ e 11 = I64 k ∧ k ≤ l.length ∧ (∀ j, j < k → p j = false) ∧ J k mm ∧ bl0.length ≤ mm.blks.length ∧ mm.blks[bl0.length]? = some (.live [.agg [I64 0, I64 0, I64 0, I64 0, I64 0, .bool false, .sl [] .tight]] 7)) (fun k => l.length - k) 0 ?_ ?_
 ·simp only [go_sem, Nat.reduceEqDiff, Nat.reduceAdd, Nat.reduceLT, Nat.reduceLeDiff, reduceIte]
  exact ⟨trivial, trivial, trivial, trivial, rfl, Nat.zero_le _, fun j hj => absurd hj (Nat.not_lt_zero j), hpush _ _ _ _ h0, by simp, by first | trivial | rfl⟩
 rintro k e ⟨bl, tk⟩ ⟨g1, g4, g9, g10, g11, hk, hp, hJ, hlen, hb⟩
 dsimp only at hlen hb
 by_cases hkl : k < l.length
 case pos =>
  obtain ⟨x, hx⟩ : ∃ x, l[k]? = some x := ⟨l[k], by simp [hkl]⟩
  simp only [go_sem, Nat.reduceEqDiff, Nat.reduceAdd, Nat.reduceLT, Nat.reduceLeDiff, reduceIte, g1, g4, g9, g10, g11, dec_lt hkl, encCs_idx hx, CmCells, CmEta, List.getElem?_append_right, Nat.sub_self, Nat.le_refl]
  refine hf k x _ _ _ hx (by simp; omega) ?_ fun m' hJ' hF => ?_
  ·exact hpush _ _ _ _ hJ
  obtain ⟨bl', tk'⟩ := m'
  obtain ⟨hF1, hF2⟩ := hF
  dsimp only at hF1 hF2
  have hb' : bl'[bl0.length]? = some (.live [.agg [I64 0, I64 0, I64 0, I64 0, I64 0, .bool false, .sl [] .tight]] 7) := by
   rw [hF2 _ (Nat.le_refl _) (by have := (List.getElem?_eq_some_iff.1 hb).1; simp; omega)]
   exact get_appL hb _
  have hx' : bl'[bl.length]? = some (.live [encC x] 7) := by
   rw [hF2 _ hlen (by simp)]; simp
  have hbl' : bl0.length ≤ bl'.length := by simp at hF1; omega
  cases hpk : p k
  ·simp only [go_sem, Nat.reduceEqDiff, Nat.reduceAdd, Nat.reduceLT, Nat.reduceLeDiff, reduceIte, g1, g4, g9, g10, g11, hpk, wrap_n1 k (by omega)]
   refine Nx_of (k + 1) (by first | omega | (dsimp only; omega)) ?_
   simp only [go_sem, Nat.reduceEqDiff, Nat.reduceAdd, Nat.reduceLT, Nat.reduceLeDiff, reduceIte, g1, g4, g9, g10]
   exact ⟨trivial, trivial, trivial, trivial, trivial, by omega, fun j hj => (by
    by_cases hjk : j = k
    ·subst hjk; exact hpk
    ·exact hp j (by omega)), hJ', hbl', hb'⟩
  ·have hlt : bl0.length < bl'.length := (List.getElem?_eq_some_iff.1 hb').1
   simp only [go_sem, Nat.reduceEqDiff, Nat.reduceAdd, Nat.reduceLT, Nat.reduceLeDiff, reduceIte, g1, g4, g9, g10, g11, hpk, hb', hx', CmCells, CmEta, hw, List.getElem?_set_self hlt]
   exact hyes k x _ hx hpk hp (hset _ _ _ _ _ (Nat.le_refl _) hJ') (by simp; exact hbl')
 obtain rfl : k = l.length := by omega
 have hlt : bl0.length < bl.length := (List.getElem?_eq_some_iff.1 hb).1
 have hlt2 : bl0.length < (bl ++ [Blk.live [.agg [I64 0, I64 0, I64 0, I64 0, I64 0, .bool false, .sl [] .tight]] 7]).length := by simp; omega
 have hb2 : (bl ++ [Blk.live [.agg [I64 0, I64 0, I64 0, I64 0, I64 0, .bool false, .sl [] .tight]] 7])[bl0.length]? = some (.live [.agg [I64 0, I64 0, I64 0, I64 0, I64 0, .bool false, .sl [] .tight]] 7) := get_appL hb _
 simp only [go_sem, Nat.reduceEqDiff, Nat.reduceAdd, Nat.reduceLT, Nat.reduceLeDiff, reduceIte, g1, g4, g9, g10, g11, show decide ((l.length : Int) < (l.length : Int)) = false from decide_eq_false (by omega), hwz, hb2, List.getElem?_set_self hlt2]
 exact hno _ hp (hset _ _ _ _ _ (Nat.le_refl _) (hpush _ _ _ _ hJ)) (by simp; omega)
theorem first105_run {l : List Sv} {f : AV} {p : Nat → Bool} {J : Nat → Mem → Prop} {n0 : Nat} (hl : l.length < 1073741824)
  (hpush : ∀ k bl tk b, J k ⟨bl, tk⟩ → J k ⟨bl ++ [b], tk⟩) (hset : ∀ k bl tk i b, n0 ≤ i → J k ⟨bl, tk⟩ → J k ⟨bl.set i b, tk⟩)
  (hf : ∀ (k : Nat) (x : Sv) (e : Nat → AV) (m : Mem) (K : AV → St → Prop), l[k]? = some x → n0 ≤ m.blks.length → J k m → (∀ m', J (k + 1) m' → Frm n0 m m' → K (.bool (p k)) ⟨e, m'⟩) → @WAH ft f [encV x] ⟨e, m⟩ ⟨K⟩)
  (m : Mem) (hm : m.blks.length = n0) (h0 : J 0 m) (K : AV → Mem → Prop)
  (hyes : ∀ (k : Nat) (x : Sv) (m' : Mem), l[k]? = some x → p k = true → (∀ j, j < k → p j = false) → J (k + 1) m' → n0 ≤ m'.blks.length → K (.tup [encV x, .bool true]) m')
  (hno : ∀ m' : Mem, (∀ j, j < l.length → p j = false) → J l.length m' → n0 ≤ m'.blks.length → K (.tup [.agg [I64 0, .sl [] .tight, .sl [] .tight], .bool false]) m') : WR ft (.f 105) [encVs l, f] m K := by
 rw [WR_f ft105 rfl]
 simp only [c105, r105]
 obtain ⟨bl0, tk0⟩ := m
 have hw : ∀ x : Sv, writeCells (.agg [I64 0, .sl [] .tight, .sl [] .tight]) 0 [I64 x.id, encI x.devs, encFs x.files] = some (encV x) := fun _ => rfl
 have hwz : writeCells (.agg [I64 0, .sl [] .tight, .sl [] .tight]) 0 [I64 0, .sl [] .tight, .sl [] .tight] = some (.agg [I64 0, .sl [] .tight, .sl [] .tight]) := rfl
 dsimp only at hm
 subst hm
 simp only [go_sem, Nat.reduceEqDiff, Nat.reduceAdd, Nat.reduceLT, Nat.reduceLeDiff, reduceIte]
 refine WL_inv (α := Nat) (fun k e mm => e 1 = f ∧ e 4 = .ptr bl0.length 0 0 ∧ e 9 = encVs l ∧ e 10 = I64 l.length ∧ e 11 = I64 k ∧ k ≤ l.length ∧ (∀ j, j < k → p j = false) ∧ J k mm ∧ bl0.length ≤ mm.blks.length ∧ mm.blks[bl0.length]? = some (.live [.agg [I64 0, .sl [] .tight, .sl [] .tight]] 3)) (fun k => l.length - k) 0 ?_ ?_
 ·simp only [go_sem, Nat.reduceEqDiff, Nat.reduceAdd, Nat.reduceLT, Nat.reduceLeDiff, reduceIte]
  exact ⟨trivial, trivial, trivial, trivial, rfl, Nat.zero_le _, fun j hj => absurd hj (Nat.not_lt_zero j), hpush _ _ _ _ h0, by simp, by first | trivial | rfl⟩
 rintro k e ⟨bl, tk⟩ ⟨g1, g4, g9, g10, g11, hk, hp, hJ, hlen, hb⟩
 dsimp only at hlen hb
 by_cases hkl : k < l.length
 case pos =>
  obtain ⟨x, hx⟩ : ∃ x, l[k]? = some x := ⟨l[k], by simp [hkl]⟩
  simp only [go_sem, Nat.reduceEqDiff, Nat.reduceAdd, Nat.reduceLT, Nat.reduceLeDiff, reduceIte, g1, g4, g9, g10, g11, dec_lt hkl, encVs_idx hx, SvCells, SvEta, List.getElem?_append_right, Nat.sub_self, Nat.le_refl]
  refine hf k x _ _ _ hx (by simp; omega) ?_ fun m' hJ' hF => ?_
  ·exact hpush _ _ _ _ hJ
  obtain ⟨bl', tk'⟩ := m'
  obtain ⟨hF1, hF2⟩ := hF
  dsimp only at hF1 hF2
  have hb' : bl'[bl0.length]? = some (.live [.agg [I64 0, .sl [] .tight, .sl [] .tight]] 3) := by
   rw [hF2 _ (Nat.le_refl _) (by have := (List.getElem?_eq_some_iff.1 hb).1; simp; omega)]
   exact get_appL hb _
  have hx' : bl'[bl.length]? = some (.live [encV x] 3) := by
   rw [hF2 _ hlen (by simp)]; simp
  have hbl' : bl0.length ≤ bl'.length := by simp at hF1; omega
  cases hpk : p k
  ·simp only [go_sem, Nat.reduceEqDiff, Nat.reduceAdd, Nat.reduceLT, Nat.reduceLeDiff, reduceIte, g1, g4, g9, g10, g11, hpk, wrap_n1 k (by omega)]
   refine Nx_of (k + 1) (by first | omega | (dsimp only; omega)) ?_
   simp only [go_sem, Nat.reduceEqDiff, Nat.reduceAdd, Nat.reduceLT, Nat.reduceLeDiff, reduceIte, g1, g4, g9, g10]
   exact ⟨trivial, trivial, trivial, trivial, trivial, by omega, fun j hj => (by
    by_cases hjk : j = k
    ·subst hjk; exact hpk
    ·exact hp j (by omega)), hJ', hbl', hb'⟩
  ·have hlt : bl0.length < bl'.length := (List.getElem?_eq_some_iff.1 hb').1
   simp only [go_sem, Nat.reduceEqDiff, Nat.reduceAdd, Nat.reduceLT, Nat.reduceLeDiff, reduceIte, g1, g4, g9, g10, g11, hpk, hb', hx', SvCells, SvEta, hw, List.getElem?_set_self hlt]
   exact hyes k x _ hx hpk hp (hset _ _ _ _ _ (Nat.le_refl _) hJ') (by simp; exact hbl')
 obtain rfl : k = l.length := by omega
 have hlt : bl0.length < bl.length := (List.getElem?_eq_some_iff.1 hb).1
 have hlt2 : bl0.length < (bl ++ [Blk.live [.agg [I64 0, .sl [] .tight, .sl [] .tight]] 3]).length := by simp; omega
 have hb2 : (bl ++ [Blk.live [.agg [I64 0, .sl [] .tight, .sl [] .tight]] 3])[bl0.length]? = some (.live [.agg [I64 0, .sl [] .tight, .sl [] .tight]] 3) := get_appL hb _
 simp only [go_sem, Nat.reduceEqDiff, Nat.reduceAdd, Nat.reduceLT, Nat.reduceLeDiff, reduceIte, g1, g4, g9, g10, g11, show decide ((l.length : Int) < (l.length : Int)) = false from decide_eq_false (by omega), hwz, hb2, List.getElem?_set_self hlt2]
 exact hno _ hp (hset _ _ _ _ _ (Nat.le_refl _) (hpush _ _ _ _ hJ)) (by simp; omega)
theorem first59_run {l : List Sp} {f : AV} {p : Nat → Bool} {J : Nat → Mem → Prop} {n0 : Nat} (hl : l.length < 1073741824)
  (hpush : ∀ k bl tk b, J k ⟨bl, tk⟩ → J k ⟨bl ++ [b], tk⟩) (hset : ∀ k bl tk i b, n0 ≤ i → J k ⟨bl, tk⟩ → J k ⟨bl.set i b, tk⟩)
  (hf : ∀ (k : Nat) (x : Sp) (e : Nat → AV) (m : Mem) (K : AV → St → Prop), l[k]? = some x → n0 ≤ m.blks.length → J k m → (∀ m', J (k + 1) m' → Frm n0 m m' → K (.bool (p k)) ⟨e, m'⟩) → @WAH ft f [encSp x] ⟨e, m⟩ ⟨K⟩)
  (m : Mem) (hm : m.blks.length = n0) (h0 : J 0 m) (K : AV → Mem → Prop)
  (hyes : ∀ (k : Nat) (x : Sp) (m' : Mem), l[k]? = some x → p k = true → (∀ j, j < k → p j = false) → J (k + 1) m' → n0 ≤ m'.blks.length → K (.tup [encSp x, .bool true]) m')
  (hno : ∀ m' : Mem, (∀ j, j < l.length → p j = false) → J l.length m' → n0 ≤ m'.blks.length → K (.tup [.agg [I64 0, I64 0], .bool false]) m') : WR ft (.f 59) [encSs l, f] m K := by
 rw [WR_f ft59 rfl]
 simp only [c59, r59]
 obtain ⟨bl0, tk0⟩ := m
 have hw : ∀ x : Sp, writeCells (.agg [I64 0, I64 0]) 0 [I64 x.lo, I64 x.hi] = some (encSp x) := fun _ => rfl
 have hwz : writeCells (.agg [I64 0, I64 0]) 0 [I64 0, I64 0] = some (.agg [I64 0, I64 0]) := rfl
 dsimp only at hm
 subst hm
 simp only [go_sem, Nat.reduceEqDiff, Nat.reduceAdd, Nat.reduceLT, Nat.reduceLeDiff, reduceIte, encSs_len]
 refine WL_inv (α := Nat) (fun k e mm => e 1 = f ∧ e 4 = .ptr bl0.length 0 0 ∧ e 9 = encSs l ∧ e 10 = I64 l.length ∧ e 11 = I64 k ∧ k ≤ l.length ∧ (∀ j, j < k → p j = false) ∧ J k mm ∧ bl0.length ≤ mm.blks.length ∧ mm.blks[bl0.length]? = some (.live [.agg [I64 0, I64 0]] 2)) (fun k => l.length - k) 0 ?_ ?_
 ·simp only [go_sem, Nat.reduceEqDiff, Nat.reduceAdd, Nat.reduceLT, Nat.reduceLeDiff, reduceIte]
  exact ⟨trivial, trivial, trivial, trivial, rfl, Nat.zero_le _, fun j hj => absurd hj (Nat.not_lt_zero j), hpush _ _ _ _ h0, by simp, by first | trivial | rfl⟩
 rintro k e ⟨bl, tk⟩ ⟨g1, g4, g9, g10, g11, hk, hp, hJ, hlen, hb⟩
 dsimp only at hlen hb
 by_cases hkl : k < l.length
 case pos =>
  obtain ⟨x, hx⟩ : ∃ x, l[k]? = some x := ⟨l[k], by simp [hkl]⟩
  simp only [go_sem, Nat.reduceEqDiff, Nat.reduceAdd, Nat.reduceLT, Nat.reduceLeDiff, reduceIte, g1, g4, g9, g10, g11, dec_lt hkl, encSs_idx hx, SpCells, SpEta,  List.getElem?_append_right, Nat.sub_self, Nat.le_refl]
  refine hf k x _ _ _ hx (by simp; omega) ?_ fun m' hJ' hF => ?_
  ·exact hpush _ _ _ _ hJ
  obtain ⟨bl', tk'⟩ := m'
  obtain ⟨hF1, hF2⟩ := hF
  dsimp only at hF1 hF2
  have hb' : bl'[bl0.length]? = some (.live [.agg [I64 0, I64 0]] 2) := by
   rw [hF2 _ (Nat.le_refl _) (by have := (List.getElem?_eq_some_iff.1 hb).1; simp; omega)]
   exact get_appL hb _
  have hx' : bl'[bl.length]? = some (.live [encSp x] 2) := by
   rw [hF2 _ hlen (by simp)]; simp
  have hbl' : bl0.length ≤ bl'.length := by simp at hF1; omega
  cases hpk : p k
  ·simp only [go_sem, Nat.reduceEqDiff, Nat.reduceAdd, Nat.reduceLT, Nat.reduceLeDiff, reduceIte, g1, g4, g9, g10, g11, hpk, wrap_n1 k (by omega)]
   refine Nx_of (k + 1) (by first | omega | (dsimp only; omega)) ?_
   simp only [go_sem, Nat.reduceEqDiff, Nat.reduceAdd, Nat.reduceLT, Nat.reduceLeDiff, reduceIte, g1, g4, g9, g10]
   exact ⟨trivial, trivial, trivial, trivial, trivial, by omega, fun j hj => (by
    by_cases hjk : j = k
    ·subst hjk; exact hpk
    ·exact hp j (by omega)), hJ', hbl', hb'⟩
  ·have hlt : bl0.length < bl'.length := (List.getElem?_eq_some_iff.1 hb').1
   simp only [go_sem, Nat.reduceEqDiff, Nat.reduceAdd, Nat.reduceLT, Nat.reduceLeDiff, reduceIte, g1, g4, g9, g10, g11, hpk, hb', hx', SpCells, SpEta,  hw, List.getElem?_set_self hlt]
   exact hyes k x _ hx hpk hp (hset _ _ _ _ _ (Nat.le_refl _) hJ') (by simp; exact hbl')
 obtain rfl : k = l.length := by omega
 have hlt : bl0.length < bl.length := (List.getElem?_eq_some_iff.1 hb).1
 have hlt2 : bl0.length < (bl ++ [Blk.live [.agg [I64 0, I64 0]] 2]).length := by simp; omega
 have hb2 : (bl ++ [Blk.live [.agg [I64 0, I64 0]] 2])[bl0.length]? = some (.live [.agg [I64 0, I64 0]] 2) := get_appL hb _
 simp only [go_sem, Nat.reduceEqDiff, Nat.reduceAdd, Nat.reduceLT, Nat.reduceLeDiff, reduceIte, g1, g4, g9, g10, g11, show decide ((l.length : Int) < (l.length : Int)) = false from decide_eq_false (by omega), hwz, hb2,  List.getElem?_set_self hlt2]
 exact hno _ hp (hset _ _ _ _ _ (Nat.le_refl _) (hpush _ _ _ _ hJ)) (by simp; omega)
theorem first116_run {l : List Int} {f : AV} {p : Nat → Bool} {J : Nat → Mem → Prop} (hl : l.length < 1073741824)
  (hf : ∀ (k : Nat) (x : Int) (e : Nat → AV) (m : Mem) (K : AV → St → Prop), l[k]? = some x → J k m → (∀ m', J (k + 1) m' → K (.bool (p k)) ⟨e, m'⟩) → @WAH ft f [I64 x] ⟨e, m⟩ ⟨K⟩)
  (m : Mem) (h0 : J 0 m) (K : AV → Mem → Prop)
  (hyes : ∀ (k : Nat) (x : Int) (m' : Mem), l[k]? = some x → p k = true → (∀ j, j < k → p j = false) → J (k + 1) m' → K (.tup [I64 x, .bool true]) m')
  (hno : ∀ m' : Mem, (∀ j, j < l.length → p j = false) → J l.length m' → K (.tup [I64 0, .bool false]) m') : WR ft (.f 116) [encI l, f] m K := by
 rw [WR_f ft116 rfl]
 simp only [c116, r116]
 simp only [go_sem, Nat.reduceEqDiff, Nat.reduceAdd, Nat.reduceLT, Nat.reduceLeDiff, reduceIte]
 refine WL_inv (α := Nat) (fun k e mm => e 1 = f ∧ e 9 = encI l ∧ e 10 = I64 l.length ∧ e 11 = I64 k ∧ k ≤ l.length ∧ (∀ j, j < k → p j = false) ∧ J k mm) (fun k => l.length - k) 0 ?_ ?_
 ·simp only [go_sem, Nat.reduceEqDiff, Nat.reduceAdd, Nat.reduceLT, Nat.reduceLeDiff, reduceIte]
  exact ⟨trivial, trivial, trivial, rfl, Nat.zero_le _, fun j hj => absurd hj (Nat.not_lt_zero j), h0⟩
 rintro k e m ⟨g1, g9, g10, g11, hk, hp, hJ⟩
 by_cases hkl : k < l.length
 case pos =>
  obtain ⟨x, hx⟩ : ∃ x, l[k]? = some x := ⟨l[k], by simp [hkl]⟩
  simp only [go_sem, Nat.reduceEqDiff, Nat.reduceAdd, Nat.reduceLT, Nat.reduceLeDiff, reduceIte, g1, g9, g10, g11, dec_lt hkl, encI_idx hx]
  refine hf k x _ _ _ hx hJ fun m' hJ' => ?_
  cases hpk : p k
  ·simp only [go_sem, Nat.reduceEqDiff, Nat.reduceAdd, Nat.reduceLT, Nat.reduceLeDiff, reduceIte, g1, g9, g10, g11, hpk, wrap_n1 k (by omega)]
   refine Nx_of (k + 1) (by first | omega | (dsimp only; omega)) ?_
   simp only [go_sem, Nat.reduceEqDiff, Nat.reduceAdd, Nat.reduceLT, Nat.reduceLeDiff, reduceIte, g1, g9, g10]
   exact ⟨trivial, trivial, trivial, trivial, by omega, fun j hj => (by
    by_cases hjk : j = k
    ·subst hjk; exact hpk
    ·exact hp j (by omega)), hJ'⟩
  ·simp only [go_sem, Nat.reduceEqDiff, Nat.reduceAdd, Nat.reduceLT, Nat.reduceLeDiff, reduceIte, g1, g9, g10, g11, hpk]
   exact hyes k x _ hx hpk hp hJ'
 obtain rfl : k = l.length := by omega
 simp only [go_sem, Nat.reduceEqDiff, Nat.reduceAdd, Nat.reduceLT, Nat.reduceLeDiff, reduceIte, g1, g9, g10, g11, show decide ((l.length : Int) < (l.length : Int)) = false from decide_eq_false (by omega)]
 exact hno _ hp hJ
attribute [go_sem] encSs_solid encSs_len
def idxP {α : Type} (p : α → Bool) : List α → Nat → Int
 | [], _ => -1
 | x :: r, k => if p x = true then (k : Int) else idxP p r (k + 1)
theorem idxP_cons {α : Type} (p : α → Bool) (x : α) (r : List α) (k : Nat) : idxP p (x :: r) k = if p x = true then (k : Int) else idxP p r (k + 1) := rfl
theorem idxP_any {α : Type} (p : α → Bool) : ∀ (l : List α) (k : Nat), decide (0 ≤ idxP p l k) = l.any p
 | [], k => rfl
 | x :: r, k => by
  unfold idxP
  cases h : p x
  ·simp only [Bool.false_eq_true, if_false, List.any_cons, h, Bool.false_or]
   exact idxP_any p r (k + 1)
  ·simp only [if_true, List.any_cons, h, Bool.true_or]
   exact decide_eq_true (by omega)
theorem IndexFuncI_ok (l : List Int) (f : AV) (p : Int → Bool) (hl : l.length < 1073741824)
  (hf : ∀ x ∈ l, ∀ (e : Nat → AV) (m : Mem) (K : AV → St → Prop), K (.bool (p x)) ⟨e, m⟩ → @WAH ft f [I64 x] ⟨e, m⟩ ⟨K⟩) : RV ft 163 [encI l, f] (I64 (idxP p l 0)) := by
 refine RV_of ft163 rfl ?_
 simp only [c163, r163]
 simp only [go_sem, Nat.reduceEqDiff, Nat.reduceAdd, Nat.reduceLT, Nat.reduceLeDiff, reduceIte]
 refine WL_inv (α := Nat × List Int) (fun q e mm => e 0 = encI l ∧ e 1 = f ∧ e 7 = I64 l.length ∧ e 8 = I64 q.1 ∧ l.drop q.1 = q.2 ∧ idxP p q.2 q.1 = idxP p l 0) (fun q => q.2.length) (0, l) ?_ ?_
 ·simp only [go_sem, Nat.reduceEqDiff, Nat.reduceAdd, Nat.reduceLT, Nat.reduceLeDiff, reduceIte]
  ((repeat' apply And.intro) <;> first | trivial | rfl | omega | assumption)
 rintro ⟨k, r⟩ e m ⟨h0, h1, h7, h8, hd, hq⟩
 dsimp only at h8 hd hq
 cases r with
 | nil =>
  have h3 := drop_nil hd
  simp only [go_sem, Nat.reduceEqDiff, Nat.reduceAdd, Nat.reduceLT, Nat.reduceLeDiff, reduceIte, h0, h1, h7, h8, dec_ge h3]
  rw [← hq]; rfl
 | cons x r =>
  obtain ⟨hk, hd2, hlt⟩ := drop_cons hd
  simp only [go_sem, Nat.reduceEqDiff, Nat.reduceAdd, Nat.reduceLT, Nat.reduceLeDiff, reduceIte, h0, h1, h7, h8, dec_lt hlt, encI_idx hk]
  refine hf x (List.mem_of_getElem? hk) _ _ _ ?_
  cases hx : p x
  ·simp only [go_sem, Nat.reduceEqDiff, Nat.reduceAdd, Nat.reduceLT, Nat.reduceLeDiff, reduceIte, h0, h1, h7, h8, wrap_n1 k (by omega)]
   refine Nx_of (k + 1, r) (by simp) ?_
   simp only [go_sem, Nat.reduceEqDiff, Nat.reduceAdd, Nat.reduceLT, Nat.reduceLeDiff, reduceIte, h0, h1, h7]
   exact ⟨trivial, trivial, trivial, trivial, hd2, by rw [← hq]; simp [idxP, hx]⟩
  ·simp only [go_sem, Nat.reduceEqDiff, Nat.reduceAdd, Nat.reduceLT, Nat.reduceLeDiff, reduceIte, h0, h1, h7, h8]
   rw [← hq]; simp [idxP, hx]
theorem ContainsFuncI_ok (l : List Int) (f : AV) (p : Int → Bool) (hl : l.length < 1073741824) (hs : ∀ (m : Mem) (q : Nat), snap m (q + 6) f = f) (hh : ∀ q, hot (q + 6) f = false)
  (hf : ∀ x ∈ l, ∀ (e : Nat → AV) (m : Mem) (K : AV → St → Prop), K (.bool (p x)) ⟨e, m⟩ → @WAH ft f [I64 x] ⟨e, m⟩ ⟨K⟩) : RV ft 134 [encI l, f] (.bool (l.any p)) := by
 refine RV_of ft134 rfl ?_
 simp only [c134, r134]
 simp only [go_sem, Nat.reduceEqDiff, Nat.reduceAdd, Nat.reduceLT, Nat.reduceLeDiff, reduceIte, WB163, hs, hh, WVH_eq (IndexFuncI_ok l f p hl hf), true_and, idxP_any]
theorem IndexFuncK_ok (l : List Ky) (f : AV) (p : Ky → Bool) (hl : l.length < 1073741824)
  (hf : ∀ x ∈ l, ∀ (e : Nat → AV) (m : Mem) (K : AV → St → Prop), K (.bool (p x)) ⟨e, m⟩ → @WAH ft f [encK x] ⟨e, m⟩ ⟨K⟩) : RV ft 120 [encKs l, f] (I64 (idxP p l 0)) := by
 refine RV_of ft120 rfl ?_
 simp only [c120, r120]
 simp only [go_sem, Nat.reduceEqDiff, Nat.reduceAdd, Nat.reduceLT, Nat.reduceLeDiff, reduceIte, encKs_len]
 refine WL_inv (α := Nat × List Ky) (fun q e mm => e 0 = encKs l ∧ e 1 = f ∧ e 7 = I64 l.length ∧ e 8 = I64 q.1 ∧ l.drop q.1 = q.2 ∧ idxP p q.2 q.1 = idxP p l 0) (fun q => q.2.length) (0, l) ?_ ?_
 ·simp only [go_sem, Nat.reduceEqDiff, Nat.reduceAdd, Nat.reduceLT, Nat.reduceLeDiff, reduceIte]
  ((repeat' apply And.intro) <;> first | trivial | rfl | omega | assumption)
 rintro ⟨k, r⟩ e m ⟨h0, h1, h7, h8, hd, hq⟩
 dsimp only at h8 hd hq
 cases r with
 | nil =>
  have h3 := drop_nil hd
  simp only [go_sem, Nat.reduceEqDiff, Nat.reduceAdd, Nat.reduceLT, Nat.reduceLeDiff, reduceIte, h0, h1, h7, h8, dec_ge h3]
  rw [← hq]; rfl
 | cons x r =>
  obtain ⟨hk, hd2, hlt⟩ := drop_cons hd
  simp only [go_sem, Nat.reduceEqDiff, Nat.reduceAdd, Nat.reduceLT, Nat.reduceLeDiff, reduceIte, h0, h1, h7, h8, dec_lt hlt, encKs_idx hk, KyCells, KyEta]
  refine hf x (List.mem_of_getElem? hk) _ _ _ ?_
  cases hx : p x
  ·simp only [go_sem, Nat.reduceEqDiff, Nat.reduceAdd, Nat.reduceLT, Nat.reduceLeDiff, reduceIte, h0, h1, h7, h8, wrap_n1 k (by omega)]
   refine Nx_of (k + 1, r) (by simp) ?_
   simp only [go_sem, Nat.reduceEqDiff, Nat.reduceAdd, Nat.reduceLT, Nat.reduceLeDiff, reduceIte, h0, h1, h7]
   exact ⟨trivial, trivial, trivial, trivial, hd2, by rw [← hq]; simp [idxP, hx]⟩
  ·simp only [go_sem, Nat.reduceEqDiff, Nat.reduceAdd, Nat.reduceLT, Nat.reduceLeDiff, reduceIte, h0, h1, h7, h8]
   rw [← hq]; simp [idxP, hx]
theorem ContainsFuncK_ok (l : List Ky) (f : AV) (p : Ky → Bool) (hl : l.length < 1073741824) (hs : ∀ (m : Mem) (q : Nat), snap m (q + 6) f = f) (hh : ∀ q, hot (q + 6) f = false)
  (hf : ∀ x ∈ l, ∀ (e : Nat → AV) (m : Mem) (K : AV → St → Prop), K (.bool (p x)) ⟨e, m⟩ → @WAH ft f [encK x] ⟨e, m⟩ ⟨K⟩) : RV ft 82 [encKs l, f] (.bool (l.any p)) := by
 refine RV_of ft82 rfl ?_
 simp only [c82, r82]
 simp only [go_sem, Nat.reduceEqDiff, Nat.reduceAdd, Nat.reduceLT, Nat.reduceLeDiff, reduceIte, WB120, hs, hh, WVH_eq (IndexFuncK_ok l f p hl hf), true_and, idxP_any]
theorem snapF (m : Mem) (q : Nat) (f : Fl) : snap m (q + 2) (encF f) = encF f := rfl
theorem hotF (q : Nat) (f : Fl) : hot (q + 2) (encF f) = false := rfl
theorem eqF (a x : Fl) : eqAV true [.i, .i] (encF a) (encF x) = some (decide (a = x)) := by
 obtain ⟨a1, a2⟩ := a; obtain ⟨x1, x2⟩ := x
 show eqs [.i, .i] [.int .i64 a1, .int .i64 a2] [.int .i64 x1, .int .i64 x2] = _
 simp only [eqs_i, eqs_nil, Option.map_some, Bool.and_true, Fl.mk.injEq]
 congr 1
 rw [Bool.eq_iff_iff]; simp
theorem IndexA_ok (l : List Fl) (a : Fl) (hl : l.length < 1073741824) : RV ft 165 [encFs l, encF a] (I64 (idxP (fun x => decide (a = x)) l 0)) := by
 refine RV_of ft165 rfl ?_
 simp only [c165, r165]
 simp only [go_sem, Nat.reduceEqDiff, Nat.reduceAdd, Nat.reduceLT, Nat.reduceLeDiff, reduceIte, FlCells, FlEta]
 refine WL_inv (α := Nat × List Fl) (fun q e mm => e 0 = encFs l ∧ e 3 = .ptr 0 0 0 ∧ e 7 = I64 l.length ∧ e 8 = I64 q.1 ∧ l.drop q.1 = q.2 ∧ mm = ⟨[.live [encF a] 2], []⟩ ∧ idxP (fun x => decide (a = x)) q.2 q.1 = idxP (fun x => decide (a = x)) l 0) (fun q => q.2.length) (0, l) ?_ ?_
 ·simp only [go_sem, Nat.reduceEqDiff, Nat.reduceAdd, Nat.reduceLT, Nat.reduceLeDiff, reduceIte]
  ((repeat' apply And.intro) <;> first | trivial | rfl | omega | assumption)
 rintro ⟨k, r⟩ e m ⟨h0, h1, h7, h8, hd, rfl, hq⟩
 dsimp only at h8 hd hq
 cases r with
 | nil =>
  have h3 := drop_nil hd
  simp only [go_sem, Nat.reduceEqDiff, Nat.reduceAdd, Nat.reduceLT, Nat.reduceLeDiff, reduceIte, h0, h1, h7, h8, dec_ge h3]
  rw [← hq]; rfl
 | cons x r =>
  obtain ⟨hk, hd2, hlt⟩ := drop_cons hd
  cases hx : decide (a = x)
  ·simp only [go_sem, Nat.reduceEqDiff, Nat.reduceAdd, Nat.reduceLT, Nat.reduceLeDiff, reduceIte, h0, h1, h7, h8, dec_lt hlt, encFs_idx hk, FlCells, FlEta, eqF, hx, wrap_n1 k (by omega), Bool.false_eq_true]
   refine Nx_of (k + 1, r) (by simp) ?_
   simp only [go_sem, Nat.reduceEqDiff, Nat.reduceAdd, Nat.reduceLT, Nat.reduceLeDiff, reduceIte, h0, h1, h7]
   exact ⟨trivial, trivial, trivial, trivial, hd2, trivial, by rw [← hq]; rw [idxP_cons, if_neg (by simp [of_decide_eq_false hx])]⟩
  ·simp only [go_sem, Nat.reduceEqDiff, Nat.reduceAdd, Nat.reduceLT, Nat.reduceLeDiff, reduceIte, h0, h1, h7, h8, dec_lt hlt, encFs_idx hk, FlCells, FlEta, eqF, hx, Bool.false_eq_true]
   rw [← hq]; rw [idxP_cons, if_pos hx]
theorem ContainsA_ok (l : List Fl) (a : Fl) (hl : l.length < 1073741824) : RV ft 137 [encFs l, encF a] (.bool (l.any fun x => decide (a = x))) := by
 refine RV_of ft137 rfl ?_
 simp only [c137, r137]
 simp only [go_sem, Nat.reduceEqDiff, Nat.reduceAdd, Nat.reduceLT, Nat.reduceLeDiff, reduceIte, FlCells, FlEta, WB165, snapF, hotF, WVH_eq (IndexA_ok l a hl), true_and, idxP_any]
def kvOf (ids : List Int) : List (Int × AV) := ids.foldl (fun kv n => iput kv n (.bool true)) []
theorem kvOf_snoc (ids : List Int) (n : Int) : kvOf (ids ++ [n]) = iput (kvOf ids) n (.bool true) := by simp [kvOf]
theorem ilook_foldl (n : Int) : ∀ (ids : List Int) (kv : List (Int × AV)), ilook (ids.foldl (fun kv n => iput kv n (.bool true)) kv) n = if ids.any (· == n) then some (.bool true) else ilook kv n
 | [], kv => rfl
 | x :: r, kv => by
  rw [List.foldl_cons, ilook_foldl n r, ilook_iput]
  by_cases h : n = x
  ·subst h; simp
  ·have h1 : (x == n) = false := by simpa using fun e => h e.symm
   simp [h, h1]
theorem ilook_kvOf (ids : List Int) (n : Int) : ilook (kvOf ids) n = if ids.any (· == n) then some (.bool true) else none := ilook_foldl n ids []
structure NJ (a b c : Nat) (ids : List Int) (m : Mem) : Prop where
 ha : m.blks[a]? = some (.mp (im (kvOf ids)) .i)
 hb : m.blks[b]? = some (.live [.mp a] 1)
 hc : m.blks[c]? = some (.live [.fn 122 [] [.ptr b 0 0]] 1)
 ab : a < b
 bc : b < c
theorem NJ.push {a b c : Nat} {ids : List Int} {bl : List Blk} {tk : List (Nat × Nat)} (h : NJ a b c ids ⟨bl, tk⟩) (x : Blk) : NJ a b c ids ⟨bl ++ [x], tk⟩ :=
 ⟨get_app1 h.ha x, get_app1 h.hb x, get_app1 h.hc x, h.ab, h.bc⟩
theorem NJ.set {a b c : Nat} {ids : List Int} {bl : List Blk} {tk : List (Nat × Nat)} (h : NJ a b c ids ⟨bl, tk⟩) {i : Nat} (hi : c + 1 ≤ i) (x : Blk) : NJ a b c ids ⟨bl.set i x, tk⟩ := by
 have h1 := h.ab; have h2 := h.bc
 refine ⟨?_, ?_, ?_, h1, h2⟩
 ·show (bl.set i x)[a]? = _; rw [List.getElem?_set_ne (by omega)]; exact h.ha
 ·show (bl.set i x)[b]? = _; rw [List.getElem?_set_ne (by omega)]; exact h.hb
 ·show (bl.set i x)[c]? = _; rw [List.getElem?_set_ne (by omega)]; exact h.hc
theorem newIds_run (bl : List Blk) (tk : List (Nat × Nat)) (K : AV → Mem → Prop) (h : K (.fn 122 [] [.ptr (bl.length + 1) 0 0]) ⟨bl ++ [.mp [] .i] ++ [.live [.mp bl.length] 1], tk⟩) : WR ft (.f 86) [] ⟨bl, tk⟩ K := by
 rw [WR_f ft86 rfl]
 simp only [c86, r86]
 have hl : (bl ++ [Blk.mp [] .i]).length = bl.length + 1 := by simp
 have hg : (bl ++ [Blk.mp [] .i] ++ [Blk.live [AV.nilm] 1])[bl.length + 1]? = some (.live [.nilm] 1) := by
  rw [← hl]; exact get_last _ _
 have hs : ∀ b, (bl ++ [Blk.mp [] .i] ++ [Blk.live [AV.nilm] 1]).set (bl.length + 1) b = bl ++ [.mp [] .i] ++ [b] := fun b => by
  rw [← hl]; exact set_last _ _ _
 simp only [go_sem, Nat.reduceEqDiff, Nat.reduceAdd, Nat.reduceLT, Nat.reduceLeDiff, reduceIte, hl, hg, hs, show ∀ v, writeCells .nilm 0 [v] = some v from fun _ => rfl]
 exact h
theorem im_put (kv : List (Int × AV)) (n : Int) (v : AV) : mputL .i (im kv) (I64 n) v = some (im (iput kv n v)) := mput_im kv n v
theorem ask_run {a b c : Nat} {ids : List Int} {bl : List Blk} {tk : List (Nat × Nat)} (h : NJ a b c ids ⟨bl, tk⟩) (n : Int) (K : AV → Mem → Prop)
  (hK : NJ a b c (ids ++ [n]) ⟨bl.set a (.mp (im (kvOf (ids ++ [n]))) .i), tk⟩ → K (.bool (!ids.any (· == n))) ⟨bl.set a (.mp (im (kvOf (ids ++ [n]))) .i), tk⟩) : WR ft (.f 122) [I64 n, .ptr b 0 0] ⟨bl, tk⟩ K := by
 rw [WR_f ft122 rfl]
 simp only [c122, r122]
 have h1 := h.ha; have h2 := h.hb; have h4 := h.ab; have h5 := h.bc
 dsimp only at h1 h2
 have hlt : a < bl.length := (List.getElem?_eq_some_iff.1 h1).1
 have hg : mgetL .i (.bool false) false (im (kvOf ids)) (I64 n) = some (.bool (ids.any (· == n))) := by
  rw [show (I64 n : AV) = .int .i64 n from rfl, mget_im, ilook_kvOf]
  cases ids.any (· == n) <;> rfl
 simp only [go_sem, Nat.reduceEqDiff, Nat.reduceAdd, Nat.reduceLT, Nat.reduceLeDiff, reduceIte, h1, h2, hg, im_put]
 rw [← kvOf_snoc]
 refine hK ⟨?_, ?_, ?_, h4, h5⟩
 ·show (bl.set a _)[a]? = _; rw [List.getElem?_set_self hlt]
 ·show (bl.set a _)[b]? = _; rw [List.getElem?_set_ne (by omega)]; exact h2
 ·show (bl.set a _)[c]? = _; rw [List.getElem?_set_ne (by omega)]; exact h.hc
def goodAt {α : Type} (key : α → Int) (ok : α → Bool) (l : List α) (k : Nat) : Bool := match l[k]? with | some x => !((l.take k).any fun y => key y == key x) && ok x | none => true
theorem goodAt_some {α : Type} (key : α → Int) (ok : α → Bool) {l : List α} {k : Nat} {x : α} (h : l[k]? = some x) : goodAt key ok l k = (!((l.take k).any fun y => key y == key x) && ok x) := by simp [goodAt, h]
theorem okFrom_drop {α : Type} (key : α → Int) (ok : α → Bool) (l : List α) : ∀ (r : List α) (k : Nat), l.drop k = r → (okFrom key ok l k r = true ↔ ∀ j, k ≤ j → j < l.length → goodAt key ok l j = true)
 | [], k, h => by
  have := drop_nil h
  exact ⟨fun _ j h1 h2 => by omega, fun _ => rfl⟩
 | x :: r, k, h => by
  obtain ⟨hk, hd, hlt⟩ := drop_cons h
  have ih := okFrom_drop key ok l r (k + 1) hd
  rw [okFrom, Bool.and_eq_true, ih, ← goodAt_some key ok hk]
  constructor
  ·rintro ⟨h1, h2⟩ j hj hjl
   by_cases he : j = k
   ·subst he; exact h1
   ·exact h2 j (by omega) hjl
  ·intro h2
   exact ⟨h2 k (Nat.le_refl _) hlt, fun j hj hjl => h2 j (by omega) hjl⟩
theorem okFrom_true {α : Type} {key : α → Int} {ok : α → Bool} {l : List α} (h : ∀ j, j < l.length → (!goodAt key ok l j) = false) : okFrom key ok l 0 l = true :=
 (okFrom_drop key ok l l 0 rfl).2 fun j _ hj => by have := h j hj; simpa using this
theorem okFrom_false {α : Type} {key : α → Int} {ok : α → Bool} {l : List α} {k : Nat} {x : α} (hx : l[k]? = some x) (h : (!goodAt key ok l k) = true) : okFrom key ok l 0 l = false := by
 cases hc : okFrom key ok l 0 l
 ·rfl
 ·have := (okFrom_drop key ok l l 0 rfl).1 hc k (Nat.zero_le _) (List.getElem?_eq_some_iff.1 hx).1
  rw [this] at h; cases h
theorem any_map_id {α : Type} (f : α → Int) (l : List α) (n : Int) : (l.map f).any (· == n) = l.any fun y => f y == n := by
 rw [List.any_map]; rfl
def okA (f : Fl) : Bool := inR f.id 0 99 && inR f.sum 0 999
theorem closA_run {a b c : Nat} {l : List Fl} {k : Nat} {x : Fl} (hx : l[k]? = some x) {e : Nat → AV} {m : Mem} (h : NJ a b c ((l.take k).map Fl.id) m) (hlen : c + 1 ≤ m.blks.length) (K : AV → St → Prop)
  (hK : ∀ m', NJ a b c ((l.take (k + 1)).map Fl.id) m' → Frm (c + 1) m m' → K (.bool (!goodAt Fl.id okA l k)) ⟨e, m'⟩) : @WAH ft (.fn 127 [] [.ptr c 0 0]) [encF x] ⟨e, m⟩ ⟨K⟩ := by
 obtain ⟨bl, tk⟩ := m
 rw [WAH_fn]
 simp only [List.nil_append, List.cons_append]
 rw [WB127]
 dsimp only [St.mem]
 rw [WR_f ft127 rfl]
 simp only [c127, r127]
 have h2 := h.push (.live [encF x] 2)
 have hcb := h2.hc
 dsimp only at hcb
 simp only [go_sem, Nat.reduceEqDiff, Nat.reduceAdd, Nat.reduceLT, Nat.reduceLeDiff, reduceIte, FlCells, FlEta, hcb, WB122]
 refine ask_run h2 x.id _ fun h3 => ?_
 have htk : (l.take k).map Fl.id ++ [x.id] = (l.take (k + 1)).map Fl.id := by
  rw [List.take_add_one, hx]; simp
 rw [htk] at h3 ⊢
 dsimp only at hlen
 have hab := h.ab; have hbc := h.bc
 have hF : Frm (c + 1) ⟨bl, tk⟩ ⟨(bl ++ [Blk.live [encF x] 2]).set a (.mp (im (kvOf ((l.take (k + 1)).map Fl.id))) .i), tk⟩ := by
  refine ⟨by simp, fun i h1 h4 => ?_⟩
  dsimp only at h4 ⊢
  rw [List.getElem?_set_ne (by omega), List.getElem?_append_left h4]
 have hK' := hK _ h3 hF
 have hbx : ((bl ++ [Blk.live [encF x] 2]).set a (.mp (im (kvOf ((l.take (k + 1)).map Fl.id))) .i))[bl.length]? = some (.live [encF x] 2) := by
  rw [List.getElem?_set_ne (by omega)]; simp
 rw [goodAt_some _ _ hx] at hK'
 unfold okA at hK'
 rw [any_map_id]
 cases c1 : ((l.take k).any fun y => y.id == x.id)
 case true =>
  simp only [go_sem, Nat.reduceEqDiff, Nat.reduceAdd, Nat.reduceLT, Nat.reduceLeDiff, reduceIte, hbx, FlCells, c1]
  simpa [c1] using hK'
 cases c2 : inR x.id 0 99
 case false =>
  simp only [go_sem, Nat.reduceEqDiff, Nat.reduceAdd, Nat.reduceLT, Nat.reduceLeDiff, reduceIte, hbx, FlCells, c1, WB108, WVH_eq (isId_ok x.id), c2, true_and]
  simpa [c1, c2] using hK'
 cases c3 : inR x.sum 0 999
 case false =>
  simp only [go_sem, Nat.reduceEqDiff, Nat.reduceAdd, Nat.reduceLT, Nat.reduceLeDiff, reduceIte, hbx, FlCells, c1, WB108, WVH_eq (isId_ok x.id), c2, WB107, WVH_eq (isWithin_ok x.sum 0 999), c3, true_and]
  simpa [c1, c2, c3] using hK'
 simp only [go_sem, Nat.reduceEqDiff, Nat.reduceAdd, Nat.reduceLT, Nat.reduceLeDiff, reduceIte, hbx, FlCells, c1, WB108, WVH_eq (isId_ok x.id), c2, WB107, WVH_eq (isWithin_ok x.sum 0 999), c3, true_and]
 simpa [c1, c2, c3] using hK'
theorem NJ_first (bl : List Blk) (tk : List (Nat × Nat)) : NJ bl.length (bl.length + 1) (bl.length + 2) [] ⟨bl ++ [.mp [] .i] ++ [.live [.mp bl.length] 1] ++ [.live [.fn 122 [] [.ptr (bl.length + 1) 0 0]] 1], tk⟩ := by
 refine ⟨?_, ?_, ?_, by omega, by omega⟩
 ·exact get_app1 (get_app1 (get_last bl _) _) _
 ·refine get_app1 ?_ _
  have := get_last (bl ++ [Blk.mp [] .i]) (Blk.live [.mp bl.length] 1)
  simp
 ·have := get_last (bl ++ [Blk.mp [] .i] ++ [Blk.live [.mp bl.length] 1]) (Blk.live [.fn 122 [] [.ptr (bl.length + 1) 0 0]] 1)
  simp
theorem okA_files (l : List Fl) : okFrom Fl.id okA l 0 l = filesL l := (filesF_ok l l 0).symm
theorem validAssets_ok (l : List Fl) (hl : l.length < 1073741824) : RV ft 99 [encFs l] (.bool (filesL l)) := by
 rw [← okA_files]
 refine RV_of ft99 rfl ?_
 simp only [c99, r99]
 simp only [go_sem, Nat.reduceEqDiff, Nat.reduceAdd, Nat.reduceLT, Nat.reduceLeDiff, reduceIte, WB86]
 refine newIds_run [] [] _ ?_
 simp only [go_sem, Nat.reduceEqDiff, Nat.reduceAdd, Nat.reduceLT, Nat.reduceLeDiff, reduceIte, WB126]
 have hN := NJ_first [] []
 simp only [List.nil_append, List.length_nil, List.cons_append, Nat.zero_add] at hN
 refine first126_run (p := fun k => !goodAt Fl.id okA l k) (J := fun k m => NJ 0 1 2 ((l.take k).map Fl.id) m) (n0 := 3) hl (fun k bl tk b h => h.push b) (fun k bl tk i b hi h => h.set hi b)
  (fun k x e m K hx hn h hK => closA_run hx h hn K hK) _ rfl hN _ (fun k x m' hx hp _ h hn => ?_) fun m' hp h hn => ?_
 all_goals obtain ⟨bl', tk'⟩ := m'
 ·simp only [go_sem, Nat.reduceEqDiff, Nat.reduceAdd, Nat.reduceLT, Nat.reduceLeDiff, reduceIte, FlCells, FlEta]
  rw [okFrom_false hx hp]
 ·simp only [go_sem, Nat.reduceEqDiff, Nat.reduceAdd, Nat.reduceLT, Nat.reduceLeDiff, reduceIte]
  rw [okFrom_true hp]
def findP {α : Type} (p : α → Bool) (z : α) : List α → α × Bool
 | [] => (z, false)
 | x :: r => if p x = true then (x, true) else findP p z r
def pAt {α : Type} (p : α → Bool) (l : List α) (k : Nat) : Bool := match l[k]? with | some x => p x | none => false
theorem pAt_some {α : Type} (p : α → Bool) {l : List α} {k : Nat} {x : α} (h : l[k]? = some x) : pAt p l k = p x := by simp [pAt, h]
theorem findP_yes {α : Type} {p : α → Bool} {z : α} : ∀ {l : List α} {k : Nat} {x : α}, l[k]? = some x → pAt p l k = true → (∀ j, j < k → pAt p l j = false) → findP p z l = (x, true)
 | [], k, x, h, _, _ => by simp at h
 | y :: r, 0, x, h, hp, _ => by
  simp at h; subst h
  have : p y = true := by simpa [pAt] using hp
  simp [findP, this]
 | y :: r, k + 1, x, h, hp, hn => by
  have h0 : p y = false := by simpa [pAt] using hn 0 (by omega)
  have ih := findP_yes (z := z) (l := r) (k := k) (x := x) (by simpa using h) (by simpa [pAt] using hp) fun j hj => by have := hn (j + 1) (by omega); simpa [pAt] using this
  simp [findP, h0, ih]
theorem findP_no {α : Type} {p : α → Bool} {z : α} : ∀ {l : List α}, (∀ j, j < l.length → pAt p l j = false) → findP p z l = (z, false)
 | [], _ => rfl
 | y :: r, hn => by
  have h0 : p y = false := by simpa [pAt] using hn 0 (by simp)
  have ih := findP_no (z := z) (l := r) fun j hj => by have := hn (j + 1) (by simp; omega); simpa [pAt] using this
  simp [findP, h0, ih]
theorem findP_any {α : Type} (p : α → Bool) (z : α) : ∀ (l : List α), (findP p z l).2 = l.any p
 | [] => rfl
 | x :: r => by
  cases h : p x
  ·simp [findP, h, findP_any p z r]
  ·simp [findP, h]
theorem sumF_any (id : Int) : ∀ (l : List Fl), (sumF id l).2 = l.any fun f => f.id == id
 | [] => rfl
 | x :: r => by
  cases h : (x.id == id)
  ·simp [sumF, h, sumF_any id r]
  ·simp [sumF, h]
def findA (id : Int) (l : List Fl) : Fl × Bool := findP (fun f => f.id == id) ⟨0, 0⟩ l
theorem idA_ok (x : Fl) (id : Int) : RV ft 164 [encF x, .pv (I64 id) 0] (.bool (x.id == id)) := by
 refine RV_of ft164 rfl ?_
 simp only [c164, r164]
 simp only [go_sem, Nat.reduceEqDiff, Nat.reduceAdd, Nat.reduceLT, Nat.reduceLeDiff, reduceIte, FlCells]
theorem closIdA {id : Int} {x : Fl} {e : Nat → AV} {m : Mem} (h : m.blks[0]? = some (.live [I64 id] 1)) (K : AV → St → Prop) (hK : K (.bool (x.id == id)) ⟨e, m⟩) : @WAH ft (.fn 164 [] [.ptr 0 0 0]) [encF x] ⟨e, m⟩ ⟨K⟩ := by
 rw [WAH_fn]
 simp only [List.nil_append, List.cons_append]
 rw [WB164]
 simp only [go_sem, Nat.reduceEqDiff, Nat.reduceAdd, Nat.reduceLT, Nat.reduceLeDiff, reduceIte, snapF, hotF, h, WVH_eq (idA_ok x id), true_and]
 exact hK
theorem findAsset_ok (l : List Fl) (id : Int) (hl : l.length < 1073741824) : RV ft 136 [encFs l, I64 id] (.tup [encF (findA id l).1, .bool (findA id l).2]) := by
 refine RV_of ft136 rfl ?_
 simp only [c136, r136]
 simp only [go_sem, Nat.reduceEqDiff, Nat.reduceAdd, Nat.reduceLT, Nat.reduceLeDiff, reduceIte, WB126]
 refine first126_run (p := pAt (fun f => f.id == id) l) (J := fun k m => m.blks[0]? = some (.live [I64 id] 1) ∧ m.blks[1]? = some (.live [.agg [I64 0, I64 0]] 2)) (n0 := 2) hl (fun k bl tk b h => by exact ⟨get_app1 h.1 b, get_app1 h.2 b⟩)
  (fun k bl tk i b hi h => ⟨by show (bl.set i b)[0]? = _; rw [List.getElem?_set_ne (by omega)]; exact h.1, by show (bl.set i b)[1]? = _; rw [List.getElem?_set_ne (by omega)]; exact h.2⟩)
  (fun k x e m K hx hn h hK => closIdA h.1 K (by have := hK m h (Frm.refl _ _); rwa [pAt_some _ hx] at this)) _ rfl ⟨rfl, rfl⟩ _ (fun k x m' hx hp hq h hn => ?_) fun m' hp h hn => ?_
 all_goals obtain ⟨bl', tk'⟩ := m'
 all_goals obtain ⟨h0, h1⟩ := h
 all_goals dsimp only at h1 hn
 ·simp only [go_sem, Nat.reduceEqDiff, Nat.reduceAdd, Nat.reduceLT, Nat.reduceLeDiff, reduceIte, h1, FlCells, FlEta, List.getElem?_set_self (show 1 < bl'.length by omega), snapF]
  rw [show findA id l = (x, true) from findP_yes hx hp hq]
 ·simp only [go_sem, Nat.reduceEqDiff, Nat.reduceAdd, Nat.reduceLT, Nat.reduceLeDiff, reduceIte, h1, List.getElem?_set_self (show 1 < bl'.length by omega)]
  rw [show findA id l = (⟨0, 0⟩, false) from findP_no hp]
  rfl
theorem strange_ok (as : List Fl) (id : Int) (hl : as.length < 1073741824) : RV ft 161 [I64 id, .pv (encFs as) 0] (.bool (!(findA id as).2)) := by
 refine RV_of ft161 rfl ?_
 simp only [c161, r161]
 simp only [go_sem, Nat.reduceEqDiff, Nat.reduceAdd, Nat.reduceLT, Nat.reduceLeDiff, reduceIte, encFs_cells, WB136, WVH_eq (findAsset_ok as id hl), FlCells, FlEta, true_and]
theorem closStrange {as : List Fl} {x : Int} (hl : as.length < 1073741824) (e : Nat → AV) (m : Mem) (K : AV → St → Prop) (hK : K (.bool (!(findA x as).2)) ⟨e, m⟩) : @WAH ft (.fn 161 [] [.pv (encFs as) 0]) [I64 x] ⟨e, m⟩ ⟨K⟩ := by
 rw [WAH_fn]
 simp only [List.nil_append, List.cons_append]
 rw [WB161]
 simp only [go_sem, Nat.reduceEqDiff, Nat.reduceAdd, Nat.reduceLT, Nat.reduceLeDiff, reduceIte, WVH_eq (strange_ok as x hl), true_and]
 exact hK
def compOK2 (as : List Fl) (c : Cm) : Bool := inR c.id 0 99 && (inR c.film 0 99 && (inR c.tongue 0 9 && (inR c.subs 0 9 && (inR c.mins 1 400 && (decide (0 < (c.assets.length : Int)) && (ascL c.assets && !(c.assets.any fun a => !(findA a as).2)))))))
theorem compOK_eq (as : List Fl) (c : Cm) : compOK2 as c = compOK as c := by
 have : (c.assets.any fun a => !(findA a as).2) = !(c.assets.all fun a => (sumF a as).2) := by
  have : (fun a => !(findA a as).2) = fun a => !(sumF a as).2 := funext fun a => by rw [sumF_any]; unfold findA; rw [findP_any]
  rw [this, List.not_all_eq_any_not]
 unfold compOK compOK2
 rw [this, Bool.not_not]
 generalize inR c.id 0 99 = a1; generalize inR c.film 0 99 = a2; generalize inR c.tongue 0 9 = a3; generalize inR c.subs 0 9 = a4; generalize inR c.mins 1 400 = a5
 generalize decide (0 < (c.assets.length : Int)) = a6; generalize ascL c.assets = a7; generalize (c.assets.all fun a => (sumF a as).2) = a8
 cases a1 <;> cases a2 <;> cases a3 <;> cases a4 <;> cases a5 <;> cases a6 <;> cases a7 <;> cases a8 <;> rfl
theorem validComp_ok (as : List Fl) (c : Cm) (ha : as.length < 1073741824) (hc : c.assets.length < 1073741824) : RV ft 129 [encC c, encFs as] (.bool (compOK as c)) := by
 rw [← compOK_eq]
 refine RV_of ft129 rfl ?_
 simp only [c129, r129]
 unfold compOK2
 cases h1 : inR c.id 0 99
 case false => simp only [go_sem, Nat.reduceEqDiff, Nat.reduceAdd, Nat.reduceLT, Nat.reduceLeDiff, reduceIte, CmCells, CmEta, encFs_cells, WB108, WVH_eq (isId_ok c.id), h1, true_and, Nat.zero_add]
 cases h2 : inR c.film 0 99
 case false => simp only [go_sem, Nat.reduceEqDiff, Nat.reduceAdd, Nat.reduceLT, Nat.reduceLeDiff, reduceIte, CmCells, CmEta, encFs_cells, WB108, WVH_eq (isId_ok c.id), WVH_eq (isId_ok c.film), h1, h2, true_and, Nat.zero_add]
 cases h6 : inR c.tongue 0 9
 case false => simp only [go_sem, Nat.reduceEqDiff, Nat.reduceAdd, Nat.reduceLT, Nat.reduceLeDiff, reduceIte, CmCells, CmEta, encFs_cells, WB108, WVH_eq (isId_ok c.id), WVH_eq (isId_ok c.film), WB107, WVH_eq (isWithin_ok c.tongue 0 9), h1, h2, h6, true_and, Nat.zero_add]
 cases h7 : inR c.subs 0 9
 case false => simp only [go_sem, Nat.reduceEqDiff, Nat.reduceAdd, Nat.reduceLT, Nat.reduceLeDiff, reduceIte, CmCells, CmEta, encFs_cells, WB108, WVH_eq (isId_ok c.id), WVH_eq (isId_ok c.film), WB107, WVH_eq (isWithin_ok c.tongue 0 9), WVH_eq (isWithin_ok c.subs 0 9), h1, h2, h6, h7, true_and, Nat.zero_add]
 cases h8 : inR c.mins 1 400
 case false => simp only [go_sem, Nat.reduceEqDiff, Nat.reduceAdd, Nat.reduceLT, Nat.reduceLeDiff, reduceIte, CmCells, CmEta, encFs_cells, WB108, WVH_eq (isId_ok c.id), WVH_eq (isId_ok c.film), WB107, WVH_eq (isWithin_ok c.tongue 0 9), WVH_eq (isWithin_ok c.subs 0 9), WVH_eq (isWithin_ok c.mins 1 400), h1, h2, h6, h7, h8, true_and, Nat.zero_add]
 cases h9 : decide (0 < (c.assets.length : Int))
 case false => simp only [go_sem, Nat.reduceEqDiff, Nat.reduceAdd, Nat.reduceLT, Nat.reduceLeDiff, reduceIte, CmCells, CmEta, encFs_cells, WB108, WVH_eq (isId_ok c.id), WVH_eq (isId_ok c.film), WB107, WVH_eq (isWithin_ok c.tongue 0 9), WVH_eq (isWithin_ok c.subs 0 9), WVH_eq (isWithin_ok c.mins 1 400), h1, h2, h6, h7, h8, h9, true_and, Nat.zero_add]
 cases h10 : ascL c.assets
 case false => simp only [go_sem, Nat.reduceEqDiff, Nat.reduceAdd, Nat.reduceLT, Nat.reduceLeDiff, reduceIte, CmCells, CmEta, encFs_cells, WB108, WVH_eq (isId_ok c.id), WVH_eq (isId_ok c.film), WB107, WVH_eq (isWithin_ok c.tongue 0 9), WVH_eq (isWithin_ok c.subs 0 9), WVH_eq (isWithin_ok c.mins 1 400), h1, h2, h6, h7, h8, h9, WB162, WVH_eq (ascIds_ok c.assets hc), h10, true_and, Nat.zero_add]
 have hcf := ContainsFuncI_ok c.assets (.fn 161 [] [.pv (encFs as) 0]) (fun a => !(findA a as).2) hc (fun m q => by rw [snap_fn]; simp only [List.map_cons, List.map_nil, snap_pv, snF]) (fun q => by rw [hot_fn]; simp only [List.any_cons, List.any_nil, hot_pv, hotFs]; rfl)
  (fun x _ e m K hK => closStrange ha e m K hK)
 simp only [go_sem, Nat.reduceEqDiff, Nat.reduceAdd, Nat.reduceLT, Nat.reduceLeDiff, reduceIte, CmCells, CmEta, encFs_cells, WB108, WVH_eq (isId_ok c.id), WVH_eq (isId_ok c.film), WB107, WVH_eq (isWithin_ok c.tongue 0 9), WVH_eq (isWithin_ok c.subs 0 9), WVH_eq (isWithin_ok c.mins 1 400), h1, h2, h6, h7, h8, h9, WB162, WVH_eq (ascIds_ok c.assets hc), h10, true_and, Nat.zero_add, WB134, WVH_eq hcf]
theorem compF_find (id : Int) : ∀ (l : List Cm), compF id l = findP (fun c => c.id == id) zeroC l
 | [] => rfl
 | x :: r => by simp only [compF, findP, compF_find id r]
theorem scrF_find (id : Int) : ∀ (l : List Sv), scrF id l = findP (fun c => c.id == id) zeroV l
 | [] => rfl
 | x :: r => by simp only [scrF, findP, scrF_find id r]
theorem idC_ok (x : Cm) (id : Int) : RV ft 125 [encC x, .pv (I64 id) 0] (.bool (x.id == id)) := by
 refine RV_of ft125 rfl ?_
 simp only [c125, r125]
 simp only [go_sem, Nat.reduceEqDiff, Nat.reduceAdd, Nat.reduceLT, Nat.reduceLeDiff, reduceIte, CmCells]
theorem closIdC {id : Int} {x : Cm} {e : Nat → AV} {m : Mem} (h : m.blks[1]? = some (.live [I64 id] 1)) (K : AV → St → Prop) (hK : K (.bool (x.id == id)) ⟨e, m⟩) : @WAH ft (.fn 125 [] [.ptr 1 0 0]) [encC x] ⟨e, m⟩ ⟨K⟩ := by
 rw [WAH_fn]
 simp only [List.nil_append, List.cons_append]
 rw [WB125]
 simp only [go_sem, Nat.reduceEqDiff, Nat.reduceAdd, Nat.reduceLT, Nat.reduceLeDiff, reduceIte, h, WVH_eq (idC_ok x id), true_and]
 exact hK
theorem findComp_ok (l : Lb) (id : Int) (hl : l.comps.length < 1073741824) : RV ft 94 [encL l, I64 id] (.tup [encC (compF id l.comps).1, .bool (compF id l.comps).2]) := by
 refine RV_of ft94 rfl ?_
 simp only [c94, r94]
 simp only [go_sem, Nat.reduceEqDiff, Nat.reduceAdd, Nat.reduceLT, Nat.reduceLeDiff, reduceIte, LbCells, WB124]
 refine first124_run (p := pAt (fun f => f.id == id) l.comps) (J := fun k m => m.blks[1]? = some (.live [I64 id] 1) ∧ m.blks[2]? = some (.live [.agg [I64 0, I64 0, I64 0, I64 0, I64 0, .bool false, .sl [] .tight]] 7)) (n0 := 3) hl (fun k bl tk b h => by exact ⟨get_app1 h.1 b, get_app1 h.2 b⟩)
  (fun k bl tk i b hi h => ⟨by show (bl.set i b)[1]? = _; rw [List.getElem?_set_ne (by omega)]; exact h.1, by show (bl.set i b)[2]? = _; rw [List.getElem?_set_ne (by omega)]; exact h.2⟩)
  (fun k x e m K hx hn h hK => closIdC h.1 K (by have := hK m h (Frm.refl _ _); rwa [pAt_some _ hx] at this)) _ rfl ⟨rfl, rfl⟩ _ (fun k x m' hx hp hq h hn => ?_) fun m' hp h hn => ?_
 all_goals obtain ⟨bl', tk'⟩ := m'
 all_goals obtain ⟨h0, h1⟩ := h
 all_goals dsimp only at h1 hn
 ·simp only [go_sem, Nat.reduceEqDiff, Nat.reduceAdd, Nat.reduceLT, Nat.reduceLeDiff, reduceIte, h1, CmCells, CmEta, List.getElem?_set_self (show 2 < bl'.length by omega)]
  rw [compF_find, findP_yes hx hp hq]
 ·simp only [go_sem, Nat.reduceEqDiff, Nat.reduceAdd, Nat.reduceLT, Nat.reduceLeDiff, reduceIte, h1, List.getElem?_set_self (show 2 < bl'.length by omega)]
  rw [compF_find, findP_no hp]
  rfl
theorem idV_ok (x : Sv) (id : Int) : RV ft 106 [encV x, .pv (I64 id) 0] (.bool (x.id == id)) := by
 refine RV_of ft106 rfl ?_
 simp only [c106, r106]
 simp only [go_sem, Nat.reduceEqDiff, Nat.reduceAdd, Nat.reduceLT, Nat.reduceLeDiff, reduceIte, SvCells]
theorem closIdV {id : Int} {x : Sv} {e : Nat → AV} {m : Mem} (h : m.blks[1]? = some (.live [I64 id] 1)) (K : AV → St → Prop) (hK : K (.bool (x.id == id)) ⟨e, m⟩) : @WAH ft (.fn 106 [] [.ptr 1 0 0]) [encV x] ⟨e, m⟩ ⟨K⟩ := by
 rw [WAH_fn]
 simp only [List.nil_append, List.cons_append]
 rw [WB106]
 simp only [go_sem, Nat.reduceEqDiff, Nat.reduceAdd, Nat.reduceLT, Nat.reduceLeDiff, reduceIte, h, WVH_eq (idV_ok x id), true_and]
 exact hK
theorem findScreen_ok (l : Lb) (id : Int) (hl : l.screens.length < 1073741824) : RV ft 67 [encL l, I64 id] (.tup [encV (scrF id l.screens).1, .bool (scrF id l.screens).2]) := by
 refine RV_of ft67 rfl ?_
 simp only [c67, r67]
 simp only [go_sem, Nat.reduceEqDiff, Nat.reduceAdd, Nat.reduceLT, Nat.reduceLeDiff, reduceIte, LbCells, WB105]
 refine first105_run (p := pAt (fun f => f.id == id) l.screens) (J := fun k m => m.blks[1]? = some (.live [I64 id] 1) ∧ m.blks[2]? = some (.live [.agg [I64 0, .sl [] .tight, .sl [] .tight]] 3)) (n0 := 3) hl (fun k bl tk b h => by exact ⟨get_app1 h.1 b, get_app1 h.2 b⟩)
  (fun k bl tk i b hi h => ⟨by show (bl.set i b)[1]? = _; rw [List.getElem?_set_ne (by omega)]; exact h.1, by show (bl.set i b)[2]? = _; rw [List.getElem?_set_ne (by omega)]; exact h.2⟩)
  (fun k x e m K hx hn h hK => closIdV h.1 K (by have := hK m h (Frm.refl _ _); rwa [pAt_some _ hx] at this)) _ rfl ⟨rfl, rfl⟩ _ (fun k x m' hx hp hq h hn => ?_) fun m' hp h hn => ?_
 all_goals obtain ⟨bl', tk'⟩ := m'
 all_goals obtain ⟨h0, h1⟩ := h
 all_goals dsimp only at h1 hn
 ·simp only [go_sem, Nat.reduceEqDiff, Nat.reduceAdd, Nat.reduceLT, Nat.reduceLeDiff, reduceIte, h1, SvCells, SvEta, List.getElem?_set_self (show 2 < bl'.length by omega)]
  rw [scrF_find, findP_yes hx hp hq]
 ·simp only [go_sem, Nat.reduceEqDiff, Nat.reduceAdd, Nat.reduceLT, Nat.reduceLeDiff, reduceIte, h1, List.getElem?_set_self (show 2 < bl'.length by omega)]
  rw [scrF_find, findP_no hp]
  rfl
theorem not_lt_le (a b : Int) : decide (a ≤ b) = !decide (b < a) := by
 by_cases h : a ≤ b
 ·rw [decide_eq_true h, decide_eq_false (by omega)]; rfl
 ·rw [decide_eq_false h, decide_eq_true (by omega)]; rfl
theorem closC_run {as : List Fl} (has : as.length < 1073741824) {l : List Cm} (hca : ∀ c ∈ l, c.assets.length < 1073741824) {k : Nat} {x : Cm} (hx : l[k]? = some x) {e : Nat → AV} {m : Mem} (h : NJ 1 2 3 ((l.take k).map Cm.id) m) (hd : m.blks[0]? = some (.live [encFs as] 1)) (hlen : 4 ≤ m.blks.length) (K : AV → St → Prop)
  (hK : ∀ m', (NJ 1 2 3 ((l.take (k + 1)).map Cm.id) m' ∧ m'.blks[0]? = some (.live [encFs as] 1)) → Frm 4 m m' → K (.bool (!goodAt Cm.id (compOK as) l k)) ⟨e, m'⟩) : @WAH ft (.fn 128 [] [.ptr 3 0 0, .ptr 0 0 0]) [encC x] ⟨e, m⟩ ⟨K⟩ := by
 obtain ⟨bl, tk⟩ := m
 rw [WAH_fn]
 simp only [List.nil_append, List.cons_append]
 rw [WB128]
 dsimp only [St.mem]
 rw [WR_f ft128 rfl]
 simp only [c128, r128]
 have h2 := h.push (.live [encC x] 7)
 have hcb := h2.hc
 dsimp only at hcb hd hlen
 simp only [go_sem, Nat.reduceEqDiff, Nat.reduceAdd, Nat.reduceLT, Nat.reduceLeDiff, reduceIte, CmCells, CmEta, hcb, WB122]
 refine ask_run h2 x.id _ fun h3 => ?_
 have htk : (l.take k).map Cm.id ++ [x.id] = (l.take (k + 1)).map Cm.id := by
  rw [List.take_add_one, hx]; simp
 rw [htk] at h3 ⊢
 have hd' : ((bl ++ [Blk.live [encC x] 7]).set 1 (.mp (im (kvOf ((l.take (k + 1)).map Cm.id))) .i))[0]? = some (.live [encFs as] 1) := by
  rw [List.getElem?_set_ne (by omega)]; exact get_app1 hd _
 have hF : Frm 4 ⟨bl, tk⟩ ⟨(bl ++ [Blk.live [encC x] 7]).set 1 (.mp (im (kvOf ((l.take (k + 1)).map Cm.id))) .i), tk⟩ := by
  refine ⟨by simp, fun i h1 h4 => ?_⟩
  dsimp only at h4 ⊢
  rw [List.getElem?_set_ne (by omega), List.getElem?_append_left h4]
 have hK' := hK _ ⟨h3, hd'⟩ hF
 have hbx : ((bl ++ [Blk.live [encC x] 7]).set 1 (.mp (im (kvOf ((l.take (k + 1)).map Cm.id))) .i))[bl.length]? = some (.live [encC x] 7) := by
  rw [List.getElem?_set_ne (by omega)]; simp
 rw [goodAt_some _ _ hx] at hK'
 rw [any_map_id]
 cases c1 : ((l.take k).any fun y => y.id == x.id)
 case true =>
  simp only [go_sem, Nat.reduceEqDiff, Nat.reduceAdd, Nat.reduceLT, Nat.reduceLeDiff, reduceIte, hbx, CmCells, c1]
  simpa [c1] using hK'
 simp only [go_sem, Nat.reduceEqDiff, Nat.reduceAdd, Nat.reduceLT, Nat.reduceLeDiff, reduceIte, hbx, hd', CmCells, CmEta, encFs_cells, c1, WB129, WVH_eq (validComp_ok as x has (hca x (List.mem_of_getElem? hx))), true_and]
 simpa [c1] using hK'
theorem validComps_ok (l : List Cm) (as : List Fl) (has : as.length < 1073741824) (hl : l.length < 1073741824) (hca : ∀ c ∈ l, c.assets.length < 1073741824) : RV ft 100 [encCs l, encFs as] (.bool (okFrom Cm.id (compOK as) l 0 l)) := by
 refine RV_of ft100 rfl ?_
 simp only [c100, r100]
 simp only [go_sem, Nat.reduceEqDiff, Nat.reduceAdd, Nat.reduceLT, Nat.reduceLeDiff, reduceIte, encFs_cells, WB86]
 refine newIds_run [.live [encFs as] 1] [] _ ?_
 simp only [go_sem, Nat.reduceEqDiff, Nat.reduceAdd, Nat.reduceLT, Nat.reduceLeDiff, reduceIte, WB124]
 have hN := NJ_first [.live [encFs as] 1] []
 simp only [List.nil_append, List.length_nil, List.length_cons, List.cons_append, Nat.zero_add, Nat.reduceAdd] at hN
 refine first124_run (p := fun k => !goodAt Cm.id (compOK as) l k) (J := fun k m => NJ 1 2 3 ((l.take k).map Cm.id) m ∧ m.blks[0]? = some (.live [encFs as] 1)) (n0 := 4) hl (fun k bl tk b h => by exact ⟨h.1.push b, get_app1 h.2 b⟩)
  (fun k bl tk i b hi h => ⟨h.1.set hi b, by show (bl.set i b)[0]? = _; rw [List.getElem?_set_ne (by omega)]; exact h.2⟩)
  (fun k x e m K hx hn h hK => closC_run has hca hx h.1 h.2 hn K hK) _ rfl ⟨hN, rfl⟩ _ (fun k x m' hx hp _ h hn => ?_) fun m' hp h hn => ?_
 all_goals obtain ⟨bl', tk'⟩ := m'
 ·simp only [go_sem, Nat.reduceEqDiff, Nat.reduceAdd, Nat.reduceLT, Nat.reduceLeDiff, reduceIte, CmCells, CmEta]
  rw [okFrom_false hx hp]
 ·simp only [go_sem, Nat.reduceEqDiff, Nat.reduceAdd, Nat.reduceLT, Nat.reduceLeDiff, reduceIte]
  rw [okFrom_true hp]
theorem validScreen_ok (x : Sv) (h1 : x.devs.length < 1073741824) (h2 : x.files.length < 1073741824) : RV ft 131 [encV x] (.bool (screenOK x)) := by
 refine RV_of ft131 rfl ?_
 simp only [c131, r131]
 unfold screenOK
 cases c1 : inR x.id 0 99
 case false => simp only [go_sem, Nat.reduceEqDiff, Nat.reduceAdd, Nat.reduceLT, Nat.reduceLeDiff, reduceIte, SvCells, SvEta, WB108, WVH_eq (isId_ok x.id), c1, true_and]
 cases c2 : inR (x.devs.length : Int) 1 6
 case false => simp only [go_sem, Nat.reduceEqDiff, Nat.reduceAdd, Nat.reduceLT, Nat.reduceLeDiff, reduceIte, SvCells, SvEta, WB108, WVH_eq (isId_ok x.id), WB107, WVH_eq (isWithin_ok (x.devs.length : Int) 1 6), c1, c2, true_and]
 cases c3 : ascL x.devs
 case false => simp only [go_sem, Nat.reduceEqDiff, Nat.reduceAdd, Nat.reduceLT, Nat.reduceLeDiff, reduceIte, SvCells, SvEta, WB108, WVH_eq (isId_ok x.id), WB107, WVH_eq (isWithin_ok (x.devs.length : Int) 1 6), c1, c2, WB162, WVH_eq (ascIds_ok x.devs h1), c3, true_and]
 cases c4 : decide (20 < (x.files.length : Int))
 case true => simp only [go_sem, Nat.reduceEqDiff, Nat.reduceAdd, Nat.reduceLT, Nat.reduceLeDiff, reduceIte, SvCells, SvEta, WB108, WVH_eq (isId_ok x.id), WB107, WVH_eq (isWithin_ok (x.devs.length : Int) 1 6), c1, c2, WB162, WVH_eq (ascIds_ok x.devs h1), c3, not_lt_le, c4, true_and]
 simp only [go_sem, Nat.reduceEqDiff, Nat.reduceAdd, Nat.reduceLT, Nat.reduceLeDiff, reduceIte, SvCells, SvEta, WB108, WVH_eq (isId_ok x.id), WB107, WVH_eq (isWithin_ok (x.devs.length : Int) 1 6), c1, c2, WB162, WVH_eq (ascIds_ok x.devs h1), c3, not_lt_le, c4, WB99, WVH_eq (validAssets_ok x.files h2), true_and]
theorem closV_run {l : List Sv} (hvd : ∀ s ∈ l, s.devs.length < 1073741824) (hvf : ∀ s ∈ l, s.files.length < 1073741824) {k : Nat} {x : Sv} (hx : l[k]? = some x) {e : Nat → AV} {m : Mem} (h : NJ 0 1 2 ((l.take k).map Sv.id) m) (hlen : 3 ≤ m.blks.length) (K : AV → St → Prop)
  (hK : ∀ m', NJ 0 1 2 ((l.take (k + 1)).map Sv.id) m' → Frm 3 m m' → K (.bool (!goodAt Sv.id screenOK l k)) ⟨e, m'⟩) : @WAH ft (.fn 130 [] [.ptr 2 0 0]) [encV x] ⟨e, m⟩ ⟨K⟩ := by
 obtain ⟨bl, tk⟩ := m
 rw [WAH_fn]
 simp only [List.nil_append, List.cons_append]
 rw [WB130]
 dsimp only [St.mem]
 rw [WR_f ft130 rfl]
 simp only [c130, r130]
 have h2 := h.push (.live [encV x] 3)
 have hcb := h2.hc
 dsimp only at hcb hlen
 simp only [go_sem, Nat.reduceEqDiff, Nat.reduceAdd, Nat.reduceLT, Nat.reduceLeDiff, reduceIte, SvCells, SvEta, hcb, WB122]
 refine ask_run h2 x.id _ fun h3 => ?_
 have htk : (l.take k).map Sv.id ++ [x.id] = (l.take (k + 1)).map Sv.id := by
  rw [List.take_add_one, hx]; simp
 rw [htk] at h3 ⊢
 have hF : Frm 3 ⟨bl, tk⟩ ⟨(bl ++ [Blk.live [encV x] 3]).set 0 (.mp (im (kvOf ((l.take (k + 1)).map Sv.id))) .i), tk⟩ := by
  refine ⟨by simp, fun i h1 h4 => ?_⟩
  dsimp only at h4 ⊢
  rw [List.getElem?_set_ne (by omega), List.getElem?_append_left h4]
 have hK' := hK _ h3 hF
 have hbx : ((bl ++ [Blk.live [encV x] 3]).set 0 (.mp (im (kvOf ((l.take (k + 1)).map Sv.id))) .i))[bl.length]? = some (.live [encV x] 3) := by
  rw [List.getElem?_set_ne (by omega)]; simp
 rw [goodAt_some _ _ hx] at hK'
 rw [any_map_id]
 have hxm := List.mem_of_getElem? hx
 cases c1 : ((l.take k).any fun y => y.id == x.id)
 case true =>
  simp only [go_sem, Nat.reduceEqDiff, Nat.reduceAdd, Nat.reduceLT, Nat.reduceLeDiff, reduceIte, hbx, SvCells, c1]
  simpa [c1] using hK'
 simp only [go_sem, Nat.reduceEqDiff, Nat.reduceAdd, Nat.reduceLT, Nat.reduceLeDiff, reduceIte, hbx, SvCells, SvEta, c1, WB131, WVH_eq (validScreen_ok x (hvd x hxm) (hvf x hxm)), true_and]
 simpa [c1] using hK'
theorem validScreens_ok (l : List Sv) (hl : l.length < 1073741824) (hvd : ∀ s ∈ l, s.devs.length < 1073741824) (hvf : ∀ s ∈ l, s.files.length < 1073741824) : RV ft 101 [encVs l] (.bool (okFrom Sv.id screenOK l 0 l)) := by
 refine RV_of ft101 rfl ?_
 simp only [c101, r101]
 simp only [go_sem, Nat.reduceEqDiff, Nat.reduceAdd, Nat.reduceLT, Nat.reduceLeDiff, reduceIte, WB86]
 refine newIds_run [] [] _ ?_
 simp only [go_sem, Nat.reduceEqDiff, Nat.reduceAdd, Nat.reduceLT, Nat.reduceLeDiff, reduceIte, WB105]
 have hN := NJ_first [] []
 simp only [List.nil_append, List.length_nil, List.cons_append, Nat.zero_add] at hN
 refine first105_run (p := fun k => !goodAt Sv.id screenOK l k) (J := fun k m => NJ 0 1 2 ((l.take k).map Sv.id) m) (n0 := 3) hl (fun k bl tk b h => h.push b) (fun k bl tk i b hi h => h.set hi b)
  (fun k x e m K hx hn h hK => closV_run hvd hvf hx h hn K hK) _ rfl hN _ (fun k x m' hx hp _ h hn => ?_) fun m' hp h hn => ?_
 all_goals obtain ⟨bl', tk'⟩ := m'
 ·simp only [go_sem, Nat.reduceEqDiff, Nat.reduceAdd, Nat.reduceLT, Nat.reduceLeDiff, reduceIte, SvCells, SvEta]
  rw [okFrom_false hx hp]
 ·simp only [go_sem, Nat.reduceEqDiff, Nat.reduceAdd, Nat.reduceLT, Nat.reduceLeDiff, reduceIte]
  rw [okFrom_true hp]
theorem validKey_ok (x : Ky) (h1 : x.devs.length < 1073741824) : RV ft 133 [encK x] (.bool (keyOK x)) := by
 have hk : keyOK x = (inR x.id 0 99 && (inR x.comp 0 99 && (!(decide (12 < (x.devs.length : Int))) && (ascL x.devs && (inR x.fr 0 9999 && (inR x.to 0 9999 && !(decide (x.to < x.fr)))))))) := by
  unfold keyOK
  by_cases a1 : x.fr < 0 <;> by_cases a2 : x.to < x.fr <;> by_cases a3 : 9999 < x.to <;> by_cases a4 : 9999 < x.fr <;> by_cases a5 : x.to < 0 <;> first | omega | simp [inR, a1, a2, a3, a4, a5, Int.not_lt.1, Int.not_le.2] | skip
  all_goals (simp only [inR, decide_eq_true a1, decide_eq_false a1, decide_eq_true a2, decide_eq_false a2, decide_eq_true a3, decide_eq_false a3]; congr 4; simp; omega)
 rw [hk]
 refine RV_of ft133 rfl ?_
 simp only [c133, r133]
 cases c1 : inR x.id 0 99
 case false => simp only [go_sem, Nat.reduceEqDiff, Nat.reduceAdd, Nat.reduceLT, Nat.reduceLeDiff, reduceIte, KyCells, KyEta, WB108, WVH_eq (isId_ok x.id), c1, true_and]
 cases c2 : inR x.comp 0 99
 case false => simp only [go_sem, Nat.reduceEqDiff, Nat.reduceAdd, Nat.reduceLT, Nat.reduceLeDiff, reduceIte, KyCells, KyEta, WB108, WVH_eq (isId_ok x.id), WVH_eq (isId_ok x.comp), c1, c2, true_and]
 cases c3 : decide (12 < (x.devs.length : Int))
 case true => simp only [go_sem, Nat.reduceEqDiff, Nat.reduceAdd, Nat.reduceLT, Nat.reduceLeDiff, reduceIte, KyCells, KyEta, WB108, WVH_eq (isId_ok x.id), WVH_eq (isId_ok x.comp), c1, c2, not_lt_le, c3, true_and]
 cases c4 : ascL x.devs
 case false => simp only [go_sem, Nat.reduceEqDiff, Nat.reduceAdd, Nat.reduceLT, Nat.reduceLeDiff, reduceIte, KyCells, KyEta, WB108, WVH_eq (isId_ok x.id), WVH_eq (isId_ok x.comp), c1, c2, not_lt_le, c3, WB162, WVH_eq (ascIds_ok x.devs h1), c4, true_and]
 cases c5 : inR x.fr 0 9999
 case false => simp only [go_sem, Nat.reduceEqDiff, Nat.reduceAdd, Nat.reduceLT, Nat.reduceLeDiff, reduceIte, KyCells, KyEta, WB108, WVH_eq (isId_ok x.id), WVH_eq (isId_ok x.comp), c1, c2, not_lt_le, c3, WB162, WVH_eq (ascIds_ok x.devs h1), c4, WB68, WVH_eq (isTime_ok x.fr), c5, true_and]
 cases c6 : inR x.to 0 9999
 case false => simp only [go_sem, Nat.reduceEqDiff, Nat.reduceAdd, Nat.reduceLT, Nat.reduceLeDiff, reduceIte, KyCells, KyEta, WB108, WVH_eq (isId_ok x.id), WVH_eq (isId_ok x.comp), c1, c2, not_lt_le, c3, WB162, WVH_eq (ascIds_ok x.devs h1), c4, WB68, WVH_eq (isTime_ok x.fr), c5, WVH_eq (isTime_ok x.to), c6, true_and]
 simp only [go_sem, Nat.reduceEqDiff, Nat.reduceAdd, Nat.reduceLT, Nat.reduceLeDiff, reduceIte, KyCells, KyEta, WB108, WVH_eq (isId_ok x.id), WVH_eq (isId_ok x.comp), c1, c2, not_lt_le, c3, WB162, WVH_eq (ascIds_ok x.devs h1), c4, WB68, WVH_eq (isTime_ok x.fr), c5, WVH_eq (isTime_ok x.to), c6, true_and]
theorem badKey_ok (x : Ky) (h1 : x.devs.length < 1073741824) : RV ft 132 [encK x] (.bool (!keyOK x)) := by
 refine RV_of ft132 rfl ?_
 simp only [c132, r132]
 simp only [go_sem, Nat.reduceEqDiff, Nat.reduceAdd, Nat.reduceLT, Nat.reduceLeDiff, reduceIte, KyCells, KyEta, WB133, WVH_eq (validKey_ok x h1), true_and]
theorem validKeys_ok (l : List Ky) (hl : l.length < 1073741824) (hd : DvB l) : RV ft 102 [encKs l] (.bool (l.all keyOK)) := by
 refine RV_of ft102 rfl ?_
 simp only [c102, r102]
 have hcf := ContainsFuncK_ok l (.fn 132 [] []) (fun x => !keyOK x) hl (fun m q => rfl) (fun q => rfl) (fun x hx e m K hK => by
  rw [WAH_fn]
  simp only [List.nil_append, List.append_nil]
  rw [WB132]
  simp only [go_sem, Nat.reduceEqDiff, Nat.reduceAdd, Nat.reduceLT, Nat.reduceLeDiff, reduceIte, WVH_eq (badKey_ok x (hd x hx)), true_and]
  exact hK)
 have hs : ∀ (m : Mem) (q : Nat), snap m (q + 1) (.fn 132 [] []) = .fn 132 [] [] := fun _ _ => rfl
 simp only [go_sem, Nat.reduceEqDiff, Nat.reduceAdd, Nat.reduceLT, Nat.reduceLeDiff, reduceIte, WB82, hs, WVH_eq hcf, true_and]
 rw [List.not_any_eq_all_not]
 simp only [Bool.not_not]
theorem badId_ok (x : Int) : RV ft 135 [I64 x] (.bool (!inR x 0 99)) := by
 refine RV_of ft135 rfl ?_
 simp only [c135, r135]
 simp only [go_sem, Nat.reduceEqDiff, Nat.reduceAdd, Nat.reduceLT, Nat.reduceLeDiff, reduceIte, WB108, WVH_eq (isId_ok x), true_and]
theorem validIds_ok (l : List Int) (hl : l.length < 1073741824) : RV ft 103 [encI l] (.bool (l.all fun n => inR n 0 99)) := by
 refine RV_of ft103 rfl ?_
 simp only [c103, r103]
 have hcf := ContainsFuncI_ok l (.fn 135 [] []) (fun x => !inR x 0 99) hl (fun m q => rfl) (fun q => rfl) (fun x hx e m K hK => by
  rw [WAH_fn]
  simp only [List.nil_append, List.append_nil]
  rw [WB135]
  simp only [go_sem, Nat.reduceEqDiff, Nat.reduceAdd, Nat.reduceLT, Nat.reduceLeDiff, reduceIte, WVH_eq (badId_ok x), true_and]
  exact hK)
 have hs : ∀ (m : Mem) (q : Nat), snap m (q + 1) (.fn 135 [] []) = .fn 135 [] [] := fun _ _ => rfl
 simp only [go_sem, Nat.reduceEqDiff, Nat.reduceAdd, Nat.reduceLT, Nat.reduceLeDiff, reduceIte, WB134, hs, WVH_eq hcf, true_and]
 rw [List.not_any_eq_all_not]
 simp only [Bool.not_not]
theorem equal_ok (a b : Ky) (ha : a.devs.length < 1073741824) : RV ft 81 [encK a, encK b] (.bool (decide (a = b))) := by
 rw [← sameK_dec]
 refine RV_of ft81 rfl ?_
 simp only [c81, r81]
 unfold sameK
 cases h1 : (a.id == b.id)
 case false => simp only [go_sem, Nat.reduceEqDiff, Nat.reduceAdd, Nat.reduceLT, Nat.reduceLeDiff, reduceIte, KyCells, h1]
 cases h2 : (a.comp == b.comp)
 case false => simp only [go_sem, Nat.reduceEqDiff, Nat.reduceAdd, Nat.reduceLT, Nat.reduceLeDiff, reduceIte, KyCells, h1, h2]
 cases h3 : (a.fr == b.fr)
 case false => simp only [go_sem, Nat.reduceEqDiff, Nat.reduceAdd, Nat.reduceLT, Nat.reduceLeDiff, reduceIte, KyCells, h1, h2, h3]
 cases h4 : (a.to == b.to)
 case false => simp only [go_sem, Nat.reduceEqDiff, Nat.reduceAdd, Nat.reduceLT, Nat.reduceLeDiff, reduceIte, KyCells, h1, h2, h3, h4]
 simp only [go_sem, Nat.reduceEqDiff, Nat.reduceAdd, Nat.reduceLT, Nat.reduceLeDiff, reduceIte, KyCells, h1, h2, h3, h4, WB119, WVH_eq (Equal_ok a.devs b.devs ha), true_and]
def kvK (ks : List Ky) : List (Int × AV) := ks.foldl (fun kv x => iput kv x.id (encK x)) []
theorem kvK_snoc (ks : List Ky) (x : Ky) : kvK (ks ++ [x]) = iput (kvK ks) x.id (encK x) := by simp [kvK]
theorem ilook_kvK (n : Int) : ∀ (ks : List Ky), ilook (kvK ks) n = (ks.reverse.find? fun y => y.id == n).map encK := by
 intro ks
 have key : ∀ (r : List Ky) , ilook (kvK r.reverse) n = (r.find? fun y => y.id == n).map encK := by
  intro r
  induction r with
  | nil => rfl
  | cons x r ih =>
   rw [List.reverse_cons, kvK_snoc, ilook_iput, ih, List.find?_cons]
   by_cases h : x.id = n
   ·subst h; simp
   ·have h1 : (x.id == n) = false := by simpa using h
    rw [if_neg (fun e => h e.symm), h1]
 have := key ks.reverse
 rwa [List.reverse_reverse] at this
def Cons (ks : List Ky) : Prop := ∀ y ∈ ks, ∀ y' ∈ ks, y.id = y'.id → y = y'
theorem clashP_ok (l : List Ky) (hl : l.length < 1073741824) (hd' : DvB l) : RV ft 50 [encKs l] (.bool (clashF l 0 l)) := by
 refine RV_of ft50 rfl ?_
 simp only [c50, r50]
 simp only [go_sem, Nat.reduceEqDiff, Nat.reduceAdd, Nat.reduceLT, Nat.reduceLeDiff, reduceIte, encKs_len]
 refine WL_inv (α := Nat × List Ky) (fun q e mm => e 3 = .mp 0 ∧ e 9 = encKs l ∧ e 10 = I64 l.length ∧ e 11 = I64 q.1 ∧ l.drop q.1 = q.2 ∧ mm.blks[0]? = some (.mp (im (kvK (l.take q.1))) .i) ∧ Cons (l.take q.1) ∧ clashF l q.1 q.2 = clashF l 0 l) (fun q => q.2.length) (0, l) ?_ ?_
 ·simp only [go_sem, Nat.reduceEqDiff, Nat.reduceAdd, Nat.reduceLT, Nat.reduceLeDiff, reduceIte]
  exact ⟨trivial, trivial, trivial, by first | trivial | rfl, by first | trivial | rfl, by first | trivial | rfl, fun y hy => by simp at hy, by first | trivial | rfl⟩
 rintro ⟨k, r⟩ e ⟨bl, tk⟩ ⟨g3, g9, g10, g11, hd, hb, hc, hq⟩
 dsimp only at g11 hd hb hc hq
 cases r
 case cons x r =>
  obtain ⟨hk, hd2, hlt⟩ := drop_cons hd
  have hxm : x ∈ l := List.mem_of_getElem? hk
  have htk : l.take (k + 1) = l.take k ++ [x] := by rw [List.take_add_one, hk]; rfl
  have hb1 : (bl ++ [Blk.live [encK x] 5])[0]? = some (.mp (im (kvK (l.take k))) .i) := get_app1 hb _
  have hl1 : (bl ++ [Blk.live [encK x] 5]).length = bl.length + 1 := by simp
  have hz : ∀ A : AV, (bl ++ [Blk.live [encK x] 5] ++ [Blk.live [A] 5])[bl.length]? = some (.live [encK x] 5) := fun A => get_app1 (get_last _ _) _
  have hz2 : ∀ A : AV, (bl ++ [Blk.live [encK x] 5] ++ [Blk.live [A] 5])[bl.length + 1]? = some (.live [A] 5) := fun A => by rw [← hl1]; exact get_last _ _
  have hset : ∀ A B : AV, (bl ++ [Blk.live [encK x] 5] ++ [Blk.live [A] 5]).set (bl.length + 1) (.live [B] 5) = bl ++ [Blk.live [encK x] 5] ++ [Blk.live [B] 5] := fun A B => by rw [← hl1]; exact set_last _ _ _
  have hb2 : ∀ A : AV, (bl ++ [Blk.live [encK x] 5] ++ [Blk.live [A] 5])[0]? = some (.mp (im (kvK (l.take k))) .i) := fun A => get_app1 hb1 _
  have hput : ∀ v, mputL .i (im (kvK (l.take k))) (I64 x.id) v = some (im (iput (kvK (l.take k)) x.id v)) := fun v => mput_im _ _ _
  have hlen0 : 0 < bl.length := (List.getElem?_eq_some_iff.1 hb).1
  have hset0 : ∀ (A : AV) (b : Blk), ((bl ++ [Blk.live [encK x] 5] ++ [Blk.live [A] 5]).set 0 b)[0]? = some b := fun A b => List.getElem?_set_self (by simp)
  have hcons : (∀ y ∈ l.take k, y.id = x.id → y = x) → Cons (l.take (k + 1)) := by
   intro h y hy y' hy' he
   rw [htk] at hy hy'
   rcases List.mem_append.1 hy with h1 | h1 <;> rcases List.mem_append.1 hy' with h2 | h2
   ·exact hc y h1 y' h2 he
   ·rw [List.mem_singleton.1 h2] at he ⊢; exact h y h1 he
   ·rw [List.mem_singleton.1 h1] at he ⊢; exact (h y' h2 he.symm).symm
   ·rw [List.mem_singleton.1 h1, List.mem_singleton.1 h2]
  have hany : (∀ y ∈ l.take k, y.id = x.id → y = x) → ((l.take k).any fun y => (y.id == x.id) && !(decide (y = x))) = false := by
   intro h
   rw [List.any_eq_false]
   intro y hy
   by_cases he : y.id = x.id
   ·simp [h y hy he]
   ·simp [he]
  have hfin : (∀ y ∈ l.take k, y.id = x.id → y = x) → clashF l (k + 1) r = clashF l 0 l := by
   intro h; rw [← hq, clashF, hany h]; rfl
  cases hf : ((l.take k).reverse.find? fun y => y.id == x.id) with
  | none =>
   have hg : mgetL .i (.agg [I64 0, I64 0, .sl [] .tight, I64 0, I64 0]) true (im (kvK (l.take k))) (I64 x.id) = some (.tup [.agg [I64 0, I64 0, .sl [] .tight, I64 0, I64 0], .bool false]) := by
    rw [show (I64 x.id : AV) = .int .i64 x.id from rfl, mget_im_ok, ilook_kvK, hf]; rfl
   have hall : ∀ y ∈ l.take k, y.id = x.id → y = x := fun y hy he => by
    have := List.find?_eq_none.1 hf y (by simpa using hy)
    simp [he] at this
   simp only [go_sem, Nat.reduceEqDiff, Nat.reduceAdd, Nat.reduceLT, Nat.reduceLeDiff, reduceIte, g3, g9, g10, g11, dec_lt hlt, encKs_idx hk, KyCells, KyEta, hb1, hg, hl1, hz, hz2, hset, hb2, hput, wrap_n1 k (by omega)]
   refine Nx_of (k + 1, r) (by simp) ?_
   simp only [go_sem, Nat.reduceEqDiff, Nat.reduceAdd, Nat.reduceLT, Nat.reduceLeDiff, reduceIte, g3, g9, g10]
   exact ⟨trivial, trivial, trivial, trivial, hd2, by rw [hset0, htk, kvK_snoc], hcons hall, hfin hall⟩
  | some y =>
   have hym : y ∈ l.take k := by simpa using List.mem_of_find?_eq_some hf
   have hyi : y.id = x.id := by simpa using List.find?_some hf
   have hyl : y ∈ l := List.mem_of_mem_take hym
   have hg : mgetL .i (.agg [I64 0, I64 0, .sl [] .tight, I64 0, I64 0]) true (im (kvK (l.take k))) (I64 x.id) = some (.tup [encK y, .bool true]) := by
    rw [show (I64 x.id : AV) = .int .i64 x.id from rfl, mget_im_ok, ilook_kvK, hf]; rfl
   cases hxy : decide (x = y)
   ·simp only [go_sem, Nat.reduceEqDiff, Nat.reduceAdd, Nat.reduceLT, Nat.reduceLeDiff, reduceIte, g3, g9, g10, g11, dec_lt hlt, encKs_idx hk, KyCells, KyEta, hb1, hg, hl1, hz, hz2, hset, hb2, hput, WB81, WVH_eq (equal_ok x y (hd' x hxm)), hxy, true_and]
    rw [← hq]
    have hne : ¬x = y := of_decide_eq_false hxy
    have : ((l.take k).any fun y => (y.id == x.id) && !(decide (y = x))) = true := by
     rw [List.any_eq_true]
     exact ⟨y, hym, by rw [decide_eq_false (fun e : y = x => hne e.symm)]; simp [hyi]⟩
    simp [clashF, this]
   ·have hxy' : x = y := of_decide_eq_true hxy
    have hall : ∀ y' ∈ l.take k, y'.id = x.id → y' = x := fun y' hy' he => by
     rw [hxy']; exact hc y' hy' y hym (he.trans hyi.symm)
    simp only [go_sem, Nat.reduceEqDiff, Nat.reduceAdd, Nat.reduceLT, Nat.reduceLeDiff, reduceIte, g3, g9, g10, g11, dec_lt hlt, encKs_idx hk, KyCells, KyEta, hb1, hg, hl1, hz, hz2, hset, hb2, hput, WB81, WVH_eq (equal_ok x y (hd' x hxm)), hxy, true_and, wrap_n1 k (by omega)]
    refine Nx_of (k + 1, r) (by simp) ?_
    simp only [go_sem, Nat.reduceEqDiff, Nat.reduceAdd, Nat.reduceLT, Nat.reduceLeDiff, reduceIte, g3, g9, g10]
    exact ⟨trivial, trivial, trivial, trivial, hd2, by rw [hset0, htk, kvK_snoc], hcons hall, hfin hall⟩
 have hz := drop_nil hd
 simp only [go_sem, Nat.reduceEqDiff, Nat.reduceAdd, Nat.reduceLT, Nat.reduceLeDiff, reduceIte, g3, g9, g10, g11, dec_ge hz]
 rw [← hq]; rfl
theorem clashPy_ok (l : List Ky) (hl : l.length < 1073741824) (hd' : DvB l) : RV ft 50 [encYs l] (.bool (clashF l 0 l)) := clashP_ok l hl hd'
theorem validKeysy_ok (l : List Ky) (hl : l.length < 1073741824) (hd : DvB l) : RV ft 102 [encYs l] (.bool (l.all keyOK)) := validKeys_ok l hl hd
theorem libOK_eq (l : Lb) : libOK l = (!decide (12 < (l.assets.length : Int)) && (filesL l.assets && (!decide (8 < (l.comps.length : Int)) && (okFrom Cm.id (compOK l.assets) l.comps 0 l.comps && (!decide (6 < (l.screens.length : Int)) && (okFrom Sv.id screenOK l.screens 0 l.screens &&
  (!decide (20 < (l.keys.length : Int)) && (l.keys.all keyOK && (!decide (20 < (l.recalled.length : Int)) && l.recalled.all fun n => inR n 0 99))))))))) := by
 unfold libOK tooMany
 generalize decide (12 < (l.assets.length : Int)) = a1; generalize decide (8 < (l.comps.length : Int)) = a2; generalize decide (6 < (l.screens.length : Int)) = a3; generalize decide (20 < (l.keys.length : Int)) = a4; generalize decide (20 < (l.recalled.length : Int)) = a5
 generalize filesL l.assets = b1; generalize okFrom Cm.id (compOK l.assets) l.comps 0 l.comps = b2; generalize okFrom Sv.id screenOK l.screens 0 l.screens = b3; generalize l.keys.all keyOK = b4; generalize (l.recalled.all fun n => inR n 0 99) = b5
 cases a1 <;> cases a2 <;> cases a3 <;> cases a4 <;> cases a5 <;> cases b1 <;> cases b2 <;> cases b3 <;> cases b4 <;> cases b5 <;> rfl
theorem valid_ok (l : Lb) (hB : LbB l) : RV ft 61 [encL l] (.bool (libOK l)) := by
 rw [libOK_eq]
 refine RV_of ft61 rfl ?_
 simp only [c61, r61]
 have f1 := validAssets_ok l.assets hB.as
 have f2 := validComps_ok l.comps l.assets hB.as hB.cs hB.ca
 have f3 := validScreens_ok l.screens hB.vs hB.vd hB.vf
 have f4 := validKeysy_ok l.keys hB.ks hB.kd
 have f5 := validIds_ok l.recalled hB.rs
 cases h1 : decide (12 < (l.assets.length : Int))
 case true => simp only [go_sem, Nat.reduceEqDiff, Nat.reduceAdd, Nat.reduceLT, Nat.reduceLeDiff, reduceIte, LbCells, not_lt_le, h1]
 cases c1 : filesL l.assets
 case false => simp only [go_sem, Nat.reduceEqDiff, Nat.reduceAdd, Nat.reduceLT, Nat.reduceLeDiff, reduceIte, LbCells, not_lt_le, h1, WB99, WVH_eq f1, c1, true_and]
 cases h2 : decide (8 < (l.comps.length : Int))
 case true => simp only [go_sem, Nat.reduceEqDiff, Nat.reduceAdd, Nat.reduceLT, Nat.reduceLeDiff, reduceIte, LbCells, not_lt_le, h1, WB99, WVH_eq f1, c1, true_and, h2]
 cases c2 : okFrom Cm.id (compOK l.assets) l.comps 0 l.comps
 case false => simp only [go_sem, Nat.reduceEqDiff, Nat.reduceAdd, Nat.reduceLT, Nat.reduceLeDiff, reduceIte, LbCells, not_lt_le, h1, WB99, WVH_eq f1, c1, true_and, h2, WB100, snCs, hotCs, WVH_eq f2, c2]
 cases h3 : decide (6 < (l.screens.length : Int))
 case true => simp only [go_sem, Nat.reduceEqDiff, Nat.reduceAdd, Nat.reduceLT, Nat.reduceLeDiff, reduceIte, LbCells, not_lt_le, h1, WB99, WVH_eq f1, c1, true_and, h2, WB100, snCs, hotCs, WVH_eq f2, c2, h3]
 cases c3 : okFrom Sv.id screenOK l.screens 0 l.screens
 case false => simp only [go_sem, Nat.reduceEqDiff, Nat.reduceAdd, Nat.reduceLT, Nat.reduceLeDiff, reduceIte, LbCells, not_lt_le, h1, WB99, WVH_eq f1, c1, true_and, h2, WB100, snCs, hotCs, WVH_eq f2, c2, h3, WB101, snVs, hotVs, WVH_eq f3, c3]
 cases h4 : decide (20 < (l.keys.length : Int))
 case true => simp only [go_sem, Nat.reduceEqDiff, Nat.reduceAdd, Nat.reduceLT, Nat.reduceLeDiff, reduceIte, LbCells, not_lt_le, h1, WB99, WVH_eq f1, c1, true_and, h2, WB100, snCs, hotCs, WVH_eq f2, c2, h3, WB101, snVs, hotVs, WVH_eq f3, c3, h4]
 cases c4 : l.keys.all keyOK
 case false => simp only [go_sem, Nat.reduceEqDiff, Nat.reduceAdd, Nat.reduceLT, Nat.reduceLeDiff, reduceIte, LbCells, not_lt_le, h1, WB99, WVH_eq f1, c1, true_and, h2, WB100, snCs, hotCs, WVH_eq f2, c2, h3, WB101, snVs, hotVs, WVH_eq f3, c3, h4, WB102, snYs, hotYs, WVH_eq f4, c4]
 cases h5 : decide (20 < (l.recalled.length : Int))
 case true => simp only [go_sem, Nat.reduceEqDiff, Nat.reduceAdd, Nat.reduceLT, Nat.reduceLeDiff, reduceIte, LbCells, not_lt_le, h1, WB99, WVH_eq f1, c1, true_and, h2, WB100, snCs, hotCs, WVH_eq f2, c2, h3, WB101, snVs, hotVs, WVH_eq f3, c3, h4, WB102, snYs, hotYs, WVH_eq f4, c4, h5]
 simp only [go_sem, Nat.reduceEqDiff, Nat.reduceAdd, Nat.reduceLT, Nat.reduceLeDiff, reduceIte, LbCells, not_lt_le, h1, WB99, WVH_eq f1, c1, true_and, h2, WB100, snCs, hotCs, WVH_eq f2, c2, h3, WB101, snVs, hotVs, WVH_eq f3, c3, h4, WB102, snYs, hotYs, WVH_eq f4, c4, h5, WB103, WVH_eq f5]
theorem Check_ok (l : Lb) (hB : LbB l) : RV ft 32 [encL l] (I64 (checkE l)) := by
 refine RV_of ft32 rfl ?_
 simp only [c32, r32]
 unfold checkE
 cases h1 : libOK l
 case false => simp only [go_sem, Nat.reduceEqDiff, Nat.reduceAdd, Nat.reduceLT, Nat.reduceLeDiff, reduceIte, LbCells, LbEta, WB61, WVH_eq (valid_ok l hB), h1, true_and] <;> rfl
 cases h2 : clashF l.keys 0 l.keys
 ·simp only [go_sem, Nat.reduceEqDiff, Nat.reduceAdd, Nat.reduceLT, Nat.reduceLeDiff, reduceIte, LbCells, LbEta, WB61, WVH_eq (valid_ok l hB), h1, WB50, snYs, hotYs, WVH_eq (clashPy_ok l.keys hB.ks hB.kd), h2, true_and] <;> rfl
 ·simp only [go_sem, Nat.reduceEqDiff, Nat.reduceAdd, Nat.reduceLT, Nat.reduceLeDiff, reduceIte, LbCells, LbEta, WB61, WVH_eq (valid_ok l hB), h1, WB50, snYs, hotYs, WVH_eq (clashPy_ok l.keys hB.ks hB.kd), h2, true_and] <;> rfl
end Go.Ab.T
