/-
 A part of the proofs over this seat.
 (The texts KqK10 KqK11 KqK12, one behind the other.)
-/
import Derived.Test.YtlmhadnbcmjaeaaGreatP2
import Derived.Test.YtlmhadnbcmjaeaaGreatA0
set_option linter.unusedSimpArgs false
set_option linter.unusedVariables false
set_option linter.unusedSectionVars false
section
namespace Go.Ab.T
set_option maxRecDepth 8000
set_option maxHeartbeats 4000000
def freeR (row : List Int) (n : Int) : Bool := decide (0 ≤ n) && (decide (n < row.length) && row.getD n.toNat 0 == -1)
def gapR (row : List Int) (s z : Int) : Bool := (freeR row (s - 1) && !freeR row (s - 1 - 1)) || (freeR row (s + z) && !freeR row (s + z + 1))
theorem isFree_ok (row : List Int) (n : Int) : RV ft 92 [I64 n, .pv (encIs row) 0] (.bool (freeR row n)) := by
 refine RV_of ft92 rfl ?_
 simp only [c92, r92]
 unfold freeR
 cases h1 : decide (0 ≤ n)
 case false => simp only [go_sem, Nat.reduceEqDiff, Nat.reduceAdd, Nat.reduceLT, Nat.reduceLeDiff, reduceIte, h1, Bool.false_and]
 cases h2 : decide (n < (row.length : Int))
 case false => simp only [go_sem, Nat.reduceEqDiff, Nat.reduceAdd, Nat.reduceLT, Nat.reduceLeDiff, reduceIte, h1, h2, Bool.false_and, Bool.true_and]
 have h3 := of_decide_eq_true h1
 have h4 := of_decide_eq_true h2
 have hi : row[n.toNat]? = some (row.getD n.toNat 0) := by
  rw [getD_lt (by omega)]; exact List.getElem?_eq_getElem (by omega)
 simp only [go_sem, Nat.reduceEqDiff, Nat.reduceAdd, Nat.reduceLT, Nat.reduceLeDiff, reduceIte, h1, h2, Bool.true_and, Is_idxI h3 hi]
theorem free_ok (row : List Int) (n : Int) : RV ft 63 [encIs row, I64 n] (.bool (freeR row n)) := by
 refine RV_of ft63 rfl ?_
 simp only [c63, r63]
 unfold freeR
 have hge : decide (n ≥ 0) = decide (0 ≤ n) := rfl
 cases h1 : decide (0 ≤ n)
 case false => simp only [go_sem, Nat.reduceEqDiff, Nat.reduceAdd, Nat.reduceLT, Nat.reduceLeDiff, reduceIte, hge, h1, Bool.false_and]
 cases h2 : decide (n < (row.length : Int))
 case false => simp only [go_sem, Nat.reduceEqDiff, Nat.reduceAdd, Nat.reduceLT, Nat.reduceLeDiff, reduceIte, hge, h1, h2, Bool.false_and, Bool.true_and]
 have h3 := of_decide_eq_true h1
 have h4 := of_decide_eq_true h2
 have hi : row[n.toNat]? = some (row.getD n.toNat 0) := by
  rw [getD_lt (by omega)]; exact List.getElem?_eq_getElem (by omega)
 simp only [go_sem, Nat.reduceEqDiff, Nat.reduceAdd, Nat.reduceLT, Nat.reduceLeDiff, reduceIte, hge, h1, h2, Bool.true_and, Is_idxI h3 hi]
theorem leavesGap_ok (row : List Int) (s z : Int) (hs0 : 0 ≤ s) (hs : s ≤ 1000000) (hz0 : 0 ≤ z) (hz : z ≤ 1000000) : RV ft 61 [encIs row, I64 s, I64 z] (.bool (gapR row s z)) := by
 refine RV_of ft61 rfl ?_
 simp only [c61, r61]
 have w1 : IntKind.i64.wrap (s - 1) = s - 1 := wrap_i64 _ (by omega) (by omega)
 have w2 : IntKind.i64.wrap (s - 1 - 1) = s - 1 - 1 := wrap_i64 _ (by omega) (by omega)
 have w3 : IntKind.i64.wrap (s + z) = s + z := wrap_i64 _ (by omega) (by omega)
 have w4 : IntKind.i64.wrap (s + z + 1) = s + z + 1 := wrap_i64 _ (by omega) (by omega)
 unfold gapR
 cases d1 : freeR row (s - 1) <;> cases d2 : freeR row (s - 1 - 1) <;> cases d3 : freeR row (s + z) <;> cases d4 : freeR row (s + z + 1) <;>
  simp only [go_sem, Nat.reduceEqDiff, Nat.reduceAdd, Nat.reduceLT, Nat.reduceLeDiff, reduceIte, w1, w2, w3, w4, WAH_fn, List.nil_append, List.cons_append, WB92, WVH_eq (isFree_ok row _), true_and, d1, d2, d3, d4, Bool.not_true, Bool.not_false]
theorem Gap_ok (row : List Int) (s z : Int) (hs0 : 0 ≤ s) (hs : s ≤ 1000000) (hz0 : 0 ≤ z) (hz : z ≤ 1000000) : RV ft 62 [encIs row, I64 s, I64 z] (.bool (gapR row s z)) := by
 refine RV_of ft62 rfl ?_
 simp only [c62, r62]
 have w1 : IntKind.i64.wrap (s - 1) = s - 1 := wrap_i64 _ (by omega) (by omega)
 have w2 : IntKind.i64.wrap (s - 1 - 1) = s - 1 - 1 := wrap_i64 _ (by omega) (by omega)
 have w3 : IntKind.i64.wrap (s + z) = s + z := wrap_i64 _ (by omega) (by omega)
 have w4 : IntKind.i64.wrap (s + z + 1) = s + z + 1 := wrap_i64 _ (by omega) (by omega)
 unfold gapR
 cases d1 : freeR row (s - 1) <;> cases d2 : freeR row (s - 1 - 1) <;> cases d3 : freeR row (s + z) <;> cases d4 : freeR row (s + z + 1) <;>
  simp only [go_sem, Nat.reduceEqDiff, Nat.reduceAdd, Nat.reduceLT, Nat.reduceLeDiff, reduceIte, w1, w2, w3, w4, WB63, WVH_eq (free_ok row _), true_and, d1, d2, d3, d4, Bool.not_true, Bool.not_false]
def plcR (row : List Int) : Nat → Int → Bool
 | 0, _ => true
 | n + 1, s => freeR row s && plcR row n (s + 1)
theorem IsPlace_ok (row : List Int) (s : Int) (z : Nat) (hs0 : 0 ≤ s) (hs : s ≤ 1000000) (hz : z ≤ 1000000) : RV ft 43 [encIs row, I64 s, I64 z] (.bool (plcR row z s)) := by
 refine RV_of ft43 rfl ?_
 simp only [c43, r43]
 simp only [go_sem, Nat.reduceEqDiff, Nat.reduceAdd, Nat.reduceLT, Nat.reduceLeDiff, reduceIte]
 refine WL_inv (α := Nat × Nat) (fun q e mm => e 0 = encIs row ∧ e 1 = I64 s ∧ e 2 = I64 z ∧ e 7 = I64 (s + (q.1 : Int)) ∧ q.1 + q.2 = z ∧ plcR row q.2 (s + q.1) = plcR row z s) (fun q => q.2) (0, z) ?_ ?_
 ·simp only [go_sem, Nat.reduceEqDiff, Nat.reduceAdd, Nat.reduceLT, Nat.reduceLeDiff, reduceIte]
  have h0 : s + ((0 : Nat) : Int) = s := by simp
  rw [h0]
  exact ⟨t_, t_, t_, rfl, by omega, rfl⟩
 rintro ⟨k, n⟩ e m ⟨g0, g1, g2, g4, hk, hq⟩
 dsimp only at g4 hk hq
 have w3 : IntKind.i64.wrap (s + z) = s + z := wrap_i64 _ (by omega) (by omega)
 cases n with
 | zero =>
  simp only [go_sem, Nat.reduceEqDiff, Nat.reduceAdd, Nat.reduceLT, Nat.reduceLeDiff, reduceIte, g0, g1, g2, g4, w3, show decide (s + (k : Int) < s + (z : Int)) = false from decide_eq_false (by omega)]
  rw [← hq]; rfl
 | succ n =>
  rw [plcR] at hq
  have w4 : IntKind.i64.wrap (s + (k : Int) + 1) = s + ((k + 1 : Nat) : Int) := by rw [wrap_i64 _ (by omega) (by omega)]; omega
  cases hf : freeR row (s + (k : Int))
  ·simp only [go_sem, Nat.reduceEqDiff, Nat.reduceAdd, Nat.reduceLT, Nat.reduceLeDiff, reduceIte, g0, g1, g2, g4, w3, show decide (s + (k : Int) < s + (z : Int)) = true from decide_eq_true (by omega), WB63, WVH_eq (free_ok row _), true_and, hf]
   rw [← hq, hf]; rfl
  ·simp only [go_sem, Nat.reduceEqDiff, Nat.reduceAdd, Nat.reduceLT, Nat.reduceLeDiff, reduceIte, g0, g1, g2, g4, w3, show decide (s + (k : Int) < s + (z : Int)) = true from decide_eq_true (by omega), WB63, WVH_eq (free_ok row _), true_and, hf, w4]
   refine Nx_of (k + 1, n) (by simp) ?_
   simp only [go_sem, Nat.reduceEqDiff, Nat.reduceAdd, Nat.reduceLT, Nat.reduceLeDiff, reduceIte, g0, g1, g2]
   rw [hf, Bool.true_and, show s + (k : Int) + 1 = s + ((k + 1 : Nat) : Int) by omega] at hq
   exact ⟨t_, t_, t_, t_, by omega, hq⟩
abbrev Rw := Nat × List Int
def refR (p : Rw) : AV := .ref p.1 0 p.2.length
structure HF (a : Nat) (rows : List Rw) (m : Mem) : Prop where
 ha : ∃ rv hold mp vn tk, m.blks[a]? = some (.live [.agg [rv, hold, .sl (rows.map refR) tk, mp, vn]] 5)
 hr : ∀ p ∈ rows, m.blks[p.1]? = some (.live (iL p.2) 1)
def plcF (row : List Int) (z r : Nat) : Nat → Nat → List (Nat × Nat)
 | 0, _ => []
 | k + 1, s => if plcR row z (s : Int) = true then (r, s) :: plcF row z r k (s + 1) else plcF row z r k (s + 1)
def plcs (z : Nat) : List Rw → Nat → List (Nat × Nat)
 | [], _ => []
 | p :: rest, r => plcF p.2 z r (p.2.length + 1 - z) 0 ++ plcs z rest (r + 1)
theorem idx_row {m : Mem} {b n : Nat} {row : List Int} (hb : m.blks[b]? = some (.live (iL row) 1)) (hn : n = row.length) {k : Nat} (hk : k < n) : idxAt m (.ref b 0 n) (I64 (k : Int)) 1 = some (.ptr b k 0) := by
 simp only [idxAt, lsz, hb]
 rw [if_pos ⟨⟨by omega, by omega⟩, t_⟩, Int.toNat_natCast, Nat.zero_add]
theorem idx_refs {rows : List Rw} {k : Nat} {p : Rw} (h : rows[k]? = some p) (m : Mem) (tk : Tk) : idxAt m (.sl (rows.map refR) tk) (I64 (k : Int)) 1 = some (.pv (refR p) 0) := by
 rw [idxAt_sl, if_pos (by omega), Int.toNat_natCast, List.getElem?_map, h]
 rfl
theorem len_refs (m : Mem) (rows : List Rw) (tk : Tk) : lenAt m (.sl (rows.map refR) tk) = some (I64 rows.length) := by rw [lenAt_sl, List.length_map]
theorem places_sq {a b1 b2 id : Nat} {rows : List Rw} {z : Nat} (hz : 1 ≤ z) (hz2 : z ≤ 1000) (hlen : rows.length ≤ 1000) (hrl : ∀ p ∈ rows, p.2.length ≤ 1000) (J : List (Nat × Nat) → Mem → Prop) (S : Mem → Prop)
  (hF : ∀ ys m, J ys m → HF a rows m ∧ m.blks[b1]? = some (.live [.ptr a 0 0] 1) ∧ m.blks[b2]? = some (.live [I64 (z : Int)] 1))
  (step : ∀ (r s : Nat) ys m (K' : AV → Mem → Prop), r < rows.length → J ((r, s) :: ys) m → (∀ m', J ys m' → K' (.bool true) m') → (∀ m', S m' → K' (.bool false) m') → WR ft (.y id) [I64 (r : Int), I64 (s : Int)] m K')
  (m : Mem) (hJ : J (plcs z rows 0) m) (K : AV → Mem → Prop) (hK : ∀ m', J [] m' → K (.tup []) m') (hS : ∀ m', S m' → K (.tup []) m') :
  WR ft (.f 91) [.yld id, .ptr b1 0 0, .ptr b2 0 0] m K := by
 rw [WR_f ft91 rfl]
 simp only [c91, r91]
 obtain ⟨⟨⟨rv, hold, mp, vn, tk, ha⟩, hr⟩, hb1, hb2⟩ := hF _ _ hJ
 simp only [go_sem, Nat.reduceEqDiff, Nat.reduceAdd, Nat.reduceLT, Nat.reduceLeDiff, reduceIte, hb1, hb2, ha, len_refs]
 refine WL_inv (α := Nat × List Rw) (fun q e mm => e 0 = .yld id ∧ e 1 = .ptr b1 0 0 ∧ e 2 = .ptr b2 0 0 ∧ e 11 = .sl (rows.map refR) tk ∧ e 12 = I64 rows.length ∧ e 13 = I64 q.1 ∧ rows.drop q.1 = q.2 ∧ q.1 ≤ rows.length ∧ J (plcs z q.2 q.1) mm) (fun q => q.2.length) (0, rows) ?_ ?_
 ·simp only [go_sem, Nat.reduceEqDiff, Nat.reduceAdd, Nat.reduceLT, Nat.reduceLeDiff, reduceIte]
  exact ⟨t_, t_, t_, t_, t_, rfl, t_, Nat.zero_le _, hJ⟩
 clear hJ hb1 hb2 ha hr
 rintro ⟨r, rest⟩ e m ⟨g0, g1, g2, g11, g12, g13, hd, hr0, hJ⟩
 dsimp only at g13 hd hr0 hJ
 cases rest with
 | nil =>
  have h4 := drop_nil hd
  simp only [go_sem, Nat.reduceEqDiff, Nat.reduceAdd, Nat.reduceLT, Nat.reduceLeDiff, reduceIte, g0, g1, g2, g11, g12, g13, dec_ge h4]
  exact hK _ hJ
 | cons p rest =>
  obtain ⟨hk, hd2, hlt⟩ := drop_cons hd
  have hpm : p ∈ rows := List.mem_of_getElem? hk
  have hpl := hrl p hpm
  rw [plcs] at hJ
  obtain ⟨⟨⟨rv, hold, mp, vn, tk', ha⟩, hr⟩, hb1, hb2⟩ := hF _ _ hJ
  have hpb := hr p hpm
  have w1 : IntKind.i64.wrap ((p.2.length : Int) - (z : Int)) = (p.2.length : Int) - z := wrap_i64 _ (by omega) (by omega)
  have w2 : IntKind.i64.wrap ((p.2.length : Int) - (z : Int) + 1) = (p.2.length : Int) - z + 1 := wrap_i64 _ (by omega) (by omega)
  have hlr : lenAt m (.ref p.1 0 p.2.length) = some (I64 p.2.length) := by simp only [lenAt, lsz, hpb]; rfl
  simp only [go_sem, Nat.reduceEqDiff, Nat.reduceAdd, Nat.reduceLT, Nat.reduceLeDiff, reduceIte, g0, g1, g2, g11, g12, g13, dec_lt hlt, idx_refs hk, refR, hb1, hb2, hlr, w1, w2]
  refine WL_inv (α := Nat × Nat) (fun q e mm => e 0 = .yld id ∧ e 1 = .ptr b1 0 0 ∧ e 2 = .ptr b2 0 0 ∧ e 4 = I64 (r : Int) ∧ e 5 = .ref p.1 0 p.2.length ∧ e 11 = .sl (rows.map refR) tk ∧ e 12 = I64 rows.length ∧ e 13 = I64 r ∧ e 22 = I64 ((p.2.length : Int) - z + 1) ∧ e 23 = I64 (q.2 : Int) ∧ q.1 = p.2.length + 1 - z - q.2 ∧ q.2 ≤ 1001 ∧ J (plcF p.2 z r q.1 q.2 ++ plcs z rest (r + 1)) mm) (fun q => q.1) (p.2.length + 1 - z, 0) ?_ ?_
  ·simp only [go_sem, Nat.reduceEqDiff, Nat.reduceAdd, Nat.reduceLT, Nat.reduceLeDiff, reduceIte, g0, g1, g2, g11, g12, g13]
   exact ⟨t_, t_, t_, t_, t_, t_, t_, t_, t_, rfl, rfl, t_, hJ⟩
  clear hJ hb1 hb2 ha hr hpb hlr g0 g1 g2 g11 g12 g13
  rintro ⟨n, s⟩ e m ⟨g0, g1, g2, g4, g5, g11, g12, g13, g22, g23, hn, hs1, hJ⟩
  dsimp only at g23 hn hs1 hJ
  cases n with
  | zero =>
   simp only [go_sem, Nat.reduceEqDiff, Nat.reduceAdd, Nat.reduceLT, Nat.reduceLeDiff, reduceIte, g0, g1, g2, g4, g5, g11, g12, g13, g22, g23, show decide ((s : Int) < (p.2.length : Int) - z + 1) = false from decide_eq_false (by omega), wrap_n1 r (by omega)]
   refine Nx_of (r + 1, rest) (by simp) ?_
   simp only [go_sem, Nat.reduceEqDiff, Nat.reduceAdd, Nat.reduceLT, Nat.reduceLeDiff, reduceIte, g0, g1, g2, g11, g12]
   exact ⟨t_, t_, t_, t_, t_, t_, hd2, by omega, hJ⟩
  | succ n =>
   rw [plcF] at hJ
   obtain ⟨⟨⟨rv, hold, mp, vn, tk', ha⟩, hr⟩, hb1, hb2⟩ := hF _ _ hJ
   have hpb := hr p hpm
   have hsl : s + z ≤ p.2.length := by omega
   simp only [go_sem, Nat.reduceEqDiff, Nat.reduceAdd, Nat.reduceLT, Nat.reduceLeDiff, reduceIte, g0, g1, g2, g4, g5, g11, g12, g13, g22, g23, show decide ((s : Int) < (p.2.length : Int) - z + 1) = true from decide_eq_true (by omega), hb2]
   refine WL_inv (α := Nat × Nat) (fun q e mm => e 0 = .yld id ∧ e 1 = .ptr b1 0 0 ∧ e 2 = .ptr b2 0 0 ∧ e 4 = I64 (r : Int) ∧ e 5 = .ref p.1 0 p.2.length ∧ e 6 = I64 (s : Int) ∧ e 11 = .sl (rows.map refR) tk ∧ e 12 = I64 rows.length ∧ e 13 = I64 r ∧ e 22 = I64 ((p.2.length : Int) - z + 1) ∧ e 23 = I64 (s : Int) ∧ e 26 = I64 (z : Int) ∧ e 27 = I64 (q.1 : Int) ∧ q.1 + q.2 = z ∧ plcR p.2 q.2 ((s + q.1 : Nat) : Int) = plcR p.2 z (s : Int) ∧ mm = m) (fun q => q.2) (0, z) ?_ ?_
   ·simp only [go_sem, Nat.reduceEqDiff, Nat.reduceAdd, Nat.reduceLT, Nat.reduceLeDiff, reduceIte, g0, g1, g2, g4, g5, g11, g12, g13, g22, g23]
    exact ⟨t_, t_, t_, t_, t_, t_, t_, t_, t_, t_, t_, t_, rfl, by omega, by simp, t_⟩
   clear g0 g1 g2 g4 g5 g11 g12 g13 g22 g23
   rintro ⟨j, k⟩ e m' ⟨g0, g1, g2, g4, g5, g6, g11, g12, g13, g22, g23, g26, g27, hjk, hpl2, rfl⟩
   dsimp only at g27 hjk hpl2
   have w5 := wrap_n1 s (by omega)
   cases k with
   | zero =>
    have hyes : plcR p.2 z (s : Int) = true := by rw [← hpl2]; rfl
    rw [if_pos hyes, List.cons_append] at hJ
    simp only [go_sem, Nat.reduceEqDiff, Nat.reduceAdd, Nat.reduceLT, Nat.reduceLeDiff, reduceIte, g0, g1, g2, g4, g5, g6, g11, g12, g13, g22, g23, g26, g27, show decide ((j : Int) < (z : Int)) = false from decide_eq_false (by omega)]
    show WR ft (.y id) _ _ _
    refine step r s _ m' _ hlt hJ (fun m2 hJ2 => ?_) fun m2 hS2 => ?_
    ·simp only [go_sem, Nat.reduceEqDiff, Nat.reduceAdd, Nat.reduceLT, Nat.reduceLeDiff, reduceIte, g0, g1, g2, g4, g5, g6, g11, g12, g13, g22, g23, g26, g27, w5]
     refine Nx_of (n, s + 1) (by simp) ?_
     simp only [go_sem, Nat.reduceEqDiff, Nat.reduceAdd, Nat.reduceLT, Nat.reduceLeDiff, reduceIte, g0, g1, g2, g4, g5, g11, g12, g13, g22]
     exact ⟨t_, t_, t_, t_, t_, t_, t_, t_, t_, t_, by omega, by omega, hJ2⟩
    ·simp only [go_sem, Nat.reduceEqDiff, Nat.reduceAdd, Nat.reduceLT, Nat.reduceLeDiff, reduceIte, g0, g1, g2, g4, g5, g6, g11, g12, g13, g22, g23, g26, g27, w5]
     exact hS m2 hS2
   | succ k =>
    rw [plcR] at hpl2
    have hlt2 : s + j < p.2.length := by omega
    have w6 : IntKind.i64.wrap ((s : Int) + (j : Int)) = ((s + j : Nat) : Int) := by rw [wrap_i64 _ (by omega) (by omega)]; omega
    have hfr : freeR p.2 ((s + j : Nat) : Int) = (p.2.getD (s + j) 0 == -1) := by
     unfold freeR
     rw [decide_eq_true (by omega), decide_eq_true (by omega), Int.toNat_natCast]; rfl
    have hgt := iL_get hlt2
    have hix := idx_row hpb rfl hlt2
    rw [hfr] at hpl2
    cases hv : (p.2.getD (s + j) 0 == -1)
    ·have hne : (p.2.getD (s + j) 0 != -1) = true := by rw [bne, hv]; rfl
     rw [hv, Bool.false_and] at hpl2
     rw [if_neg (by rw [← hpl2]; decide)] at hJ
     simp only [go_sem, Nat.reduceEqDiff, Nat.reduceAdd, Nat.reduceLT, Nat.reduceLeDiff, reduceIte, g0, g1, g2, g4, g5, g6, g11, g12, g13, g22, g23, g26, g27, show decide ((j : Int) < (z : Int)) = true from decide_eq_true (by omega), w6, hix, hpb, hgt, hne, w5]
     refine Nx_of (n, s + 1) (by simp) ?_
     simp only [go_sem, Nat.reduceEqDiff, Nat.reduceAdd, Nat.reduceLT, Nat.reduceLeDiff, reduceIte, g0, g1, g2, g4, g5, g11, g12, g13, g22]
     exact ⟨t_, t_, t_, t_, t_, t_, t_, t_, t_, t_, by omega, by omega, hJ⟩
    ·have hne : (p.2.getD (s + j) 0 != -1) = false := by rw [bne, hv]; rfl
     rw [hv, Bool.true_and, show ((s + j : Nat) : Int) + 1 = ((s + (j + 1) : Nat) : Int) by omega] at hpl2
     simp only [go_sem, Nat.reduceEqDiff, Nat.reduceAdd, Nat.reduceLT, Nat.reduceLeDiff, reduceIte, g0, g1, g2, g4, g5, g6, g11, g12, g13, g22, g23, g26, g27, show decide ((j : Int) < (z : Int)) = true from decide_eq_true (by omega), w6, hix, hpb, hgt, hne, wrap_n1 j (by omega)]
     refine Nx_of (j + 1, k) (by simp) ?_
     simp only [go_sem, Nat.reduceEqDiff, Nat.reduceAdd, Nat.reduceLT, Nat.reduceLeDiff, reduceIte, g0, g1, g2, g4, g5, g6, g11, g12, g13, g22, g23, g26]
     exact ⟨t_, t_, t_, t_, t_, t_, t_, t_, t_, t_, t_, t_, t_, by omega, hpl2, t_⟩
def asg40 : ACode := (Sq [Mv 7 12]
 (.region [Mv 8 13]))
def body40 : ACode := (.block 1 (.seq (Sq [Ld 14 2,Oa 15 14 0,Oa 16 15 2,Ld 17 16,Mv 18 7,Oi 19 17 18 1,Ld 20 19,Mv 21 8,Ld 22 3,Ob 23 (.call 61 [.t 20,.t 21,.t 22]),Ob 24 (.not (.t 23))]
 (.cond (.t 24) (Sq [Mv 25 7,Mv 26 8,Sv 4 25 1,Sv 5 26 1,On (.store (.t 6) (.c (.bool true)) 1)]
 (.ret))
 (.skip)))
 (Sq [Ld 27 6,Ob 28 (.not (.t 27))]
 (.cond (.t 28) (.region [Mv 29 7,Mv 30 8,Sv 4 29 1,Sv 5 30 1,On (.store (.t 6) (.c (.bool true)) 1)])
 (.skip)))))
def rowAt (rows : List Rw) (r : Nat) : List Int := (rows[r]?.map (·.2)).getD []
def noGap (rows : List Rw) (z : Nat) (q : Nat × Nat) : Bool := !gapR (rowAt rows q.1) (q.2 : Int) (z : Int)
theorem gA (bl l : List Blk) (n : Nat) : (bl ++ l)[bl.length + n]? = l[n]? := by rw [List.getElem?_append_right (by omega)]; congr 1; omega
theorem gA0 (bl l : List Blk) : (bl ++ l)[bl.length]? = l[0]? := gA bl l 0
theorem sA (bl l : List Blk) (n : Nat) (x : Blk) : (bl ++ l).set (bl.length + n) x = bl ++ l.set n x := by rw [List.set_append_right _ _ (by omega)]; congr 2; omega
theorem sA0 (bl l : List Blk) (x : Blk) : (bl ++ l).set bl.length x = bl ++ l.set 0 x := sA bl l 0 x
theorem gB {bl : List Blk} {b : Blk} {i : Nat} (h : bl[i]? = some b) (l : List Blk) : (bl ++ l)[i]? = some b := by rw [List.getElem?_append_left (List.getElem?_eq_some_iff.1 h).1]; exact h
theorem places_W (w : AV) (hc : w.cells = [w]) (hs : w.solid = true) (z : Int) (bl : List Blk) (tk : List (Nat × Nat)) (K : AV → Mem → Prop)
  (hK : K (.fn 91 [] [.ptr bl.length 0 0, .ptr (bl.length + 1) 0 0]) ⟨bl ++ [.live [w] 1, .live [I64 z] 1], tk⟩) : WR ft (.f 60) [w, I64 z] ⟨bl, tk⟩ K := by
 rw [WR_f ft60 rfl]
 simp only [c60, r60]
 simp only [go_sem, Nat.reduceEqDiff, Nat.reduceAdd, Nat.reduceLT, Nat.reduceLeDiff, reduceIte, hc, hs, List.append_assoc, List.cons_append, List.nil_append, List.length_append, List.length_cons, List.length_nil]
 exact hK
def f4 (o : Option (Nat × Nat)) : Int := (o.map fun q => (q.1 : Int)).getD 0
def f5 (o : Option (Nat × Nat)) : Int := (o.map fun q => (q.2 : Int)).getD 0
def bB (a z : Nat) (o : Option (Nat × Nat)) (l : List Blk) : List Blk := .live [.ptr a 0 0] 1 :: .live [I64 (z : Int)] 1 :: .live [I64 (f4 o)] 1 :: .live [I64 (f5 o)] 1 :: .live [.bool o.isSome] 1 :: .live [.ptr a 0 0] 1 :: .live [I64 (z : Int)] 1 :: l
theorem RgEnd_ret {n : Nat} {e : Nat → AV} {Q : Ex → St → Prop} {m : Mem} {env : Nat → AV} {ps : List Nat} {asg body : ACode} {x : Ex} (h : m.blks[n]? = some (.lp env ps asg body false (some x)))
  (hq : Q x ⟨e, { m with blks := m.blks.set n .dead }⟩) : RgEnd n e Q m := by
 unfold RgEnd
 rw [h]
 exact ⟨rfl, hq⟩
theorem YEnd_ret {id : Nat} {K : AV → Mem → Prop} {s : St} {env : Nat → AV} {ps : List Nat} {asg body' : ACode} {r : Bool} {p : Option Ex} (h : s.mem.blks[id]? = some (.lp env ps asg body' r p))
  (hw : K (.bool false) { s.mem with blks := s.mem.blks.set id (.lp env ps asg body' false (some .ret)) }) : YEnd id K .ret s := by
 unfold YEnd
 rw [h]
 exact hw
theorem snap_row {m : Mem} {b : Nat} {row : List Int} (hb : m.blks[b]? = some (.live (iL row) 1)) (q : Nat) : Ab.snap m (q + 3) (.ref b 0 row.length) = encIs row := by
 rw [snap_ref, elems_ref, hb, elBlk_live, if_pos (by rw [iL_len]; omega), List.drop_zero, List.take_of_length_le (by rw [iL_len]; omega)]
 show AV.sl ((iL row).map (Ab.snap _ (q + 2))) .unk = _
 unfold iL encIs
 rw [List.map_map]; rfl
theorem best_range {a : Nat} {rows : List Rw} {z : Nat} (hz : 1 ≤ z) (hz2 : z ≤ 1000) (hlen : rows.length ≤ 1000) (hrl : ∀ p ∈ rows, p.2.length ≤ 1000) (bl : List Blk) (tk : List (Nat × Nat)) (hF : HF a rows ⟨bl, tk⟩)
  (hpl : ∀ q ∈ plcs z rows 0, q.2 ≤ 1000) (env : Nat → AV) (v2 : env 2 = .ptr bl.length 0 0) (v3 : env 3 = .ptr (bl.length + 1) 0 0) (v4 : env 4 = .ptr (bl.length + 2) 0 0) (v5 : env 5 = .ptr (bl.length + 3) 0 0) (v6 : env 6 = .ptr (bl.length + 4) 0 0)
  (v11 : env 11 = .fn 91 [] [.ptr (bl.length + 5) 0 0, .ptr (bl.length + 6) 0 0]) (Q : Ex → St → Prop)
  (hQ1 : (plcs z rows 0).find? (noGap rows z) = none → Q .nxt ⟨env, ⟨bl ++ bB a z (plcs z rows 0).head? [.dead], tk⟩⟩)
  (hQ2 : ∀ q, (plcs z rows 0).find? (noGap rows z) = some q → Q .ret ⟨env, ⟨bl ++ bB a z (some q) [.dead], tk⟩⟩) :
  @WL ft (.range (.t 11) [12, 13] asg40 body40) ⟨env, ⟨bl ++ bB a z none [], tk⟩⟩ ⟨Q⟩ := by
 refine WL_range_of (g := 91) (first := []) (cap := [.ptr (bl.length + 5) 0 0, .ptr (bl.length + 6) 0 0]) (by show env 11 = _; exact v11) ?_
 have hl7 : (bl ++ bB a z none []).length = bl.length + 7 := by rw [List.length_append]; rfl
 dsimp only
 rw [hl7, List.nil_append, List.append_assoc]
 show WR ft (.f 91) [.yld (bl.length + 7), .ptr (bl.length + 5) 0 0, .ptr (bl.length + 6) 0 0] ⟨bl ++ bB a z none [.lp env [12, 13] asg40 body40 true none], tk⟩ _
 refine places_sq (a := a) (rows := rows) (z := z) hz hz2 hlen hrl (fun ys m => ∃ dn, plcs z rows 0 = dn ++ ys ∧ (∀ q ∈ dn, noGap rows z q = false) ∧ m = ⟨bl ++ bB a z dn.head? [.lp env [12, 13] asg40 body40 true none], tk⟩)
  (fun m => ∃ q, (plcs z rows 0).find? (noGap rows z) = some q ∧ m = ⟨bl ++ bB a z (some q) [.lp env [12, 13] asg40 body40 false (some .ret)], tk⟩) ?_ ?_ _ ⟨[], rfl, fun q hq => by simp at hq, rfl⟩ _ ?_ ?_
 ·rintro ys m ⟨dn, _, _, rfl⟩
  obtain ⟨⟨rv, hold, mp, vn, t2, ha⟩, hr⟩ := hF
  exact ⟨⟨⟨rv, hold, mp, vn, t2, gB ha _⟩, fun p hp => gB (hr p hp) _⟩, gA bl _ 5, gA bl _ 6⟩
 ·rintro r s ys m K' hrlt ⟨dn, hdn, hno, rfl⟩ hk hs
  have hmem : (r, s) ∈ plcs z rows 0 := by rw [hdn]; simp
  have hs1000 : s ≤ 1000 := hpl _ hmem
  obtain ⟨⟨rv, hold, mp, vn, t2, ha⟩, hr⟩ := hF
  obtain ⟨p, hp⟩ : ∃ p, rows[r]? = some p := ⟨rows[r], List.getElem?_eq_getElem hrlt⟩
  have hpb := hr p (List.mem_of_getElem? hp)
  refine WR_yld (ft := ft) (gA bl _ 7) rfl ?_
  simp only [go_sem, Nat.reduceEqDiff, Nat.reduceAdd, Nat.reduceLT, Nat.reduceLeDiff, reduceIte, asg40, puts]
  refine YBegin_lp (ft := ft) (gA bl _ 7) ?_
  dsimp only
  rw [sA]
  dsimp only at ha hr hpb
  have hsn : ∀ m : Mem, snEs m 11 (if 0 + p.2.length ≤ (iL p.2).length then some (List.take p.2.length (iL p.2)) else none) = encIs p.2 := fun m => by
   have h1 := iL_len p.2
   rw [if_pos (by omega), List.take_of_length_le (by omega)]
   show AV.sl ((iL p.2).map (Ab.snap m 11)) .unk = encIs p.2
   unfold iL encIs
   rw [List.map_map]; rfl
  have ha' := fun l => gB ha l
  have hpb' := fun l => gB hpb l
  have hgap := leavesGap_ok p.2 (s : Int) (z : Int) (by omega) (by omega) (by omega) (by omega)
  have hng : noGap rows z (r, s) = !gapR p.2 (s : Int) (z : Int) := by
   unfold noGap rowAt; rw [hp]; rfl
  show W ft body40 _ _
  unfold body40
  cases hg : gapR p.2 (s : Int) (z : Int)
  ·simp only [go_sem, Nat.reduceEqDiff, Nat.reduceAdd, Nat.reduceLT, Nat.reduceLeDiff, reduceIte, v2, v3, v4, v5, v6, bB, gA, gA0, List.getElem?_cons_zero, List.getElem?_cons_succ, List.set, ha', hpb', idx_refs hp, refR, WB61, hsn, WVH_eq hgap, hg, sA, sA0]
   refine ⟨t_, YEnd_ret (gA bl _ 7) ?_⟩
   dsimp only
   rw [sA]
   refine hs _ ⟨(r, s), ?_, rfl⟩
   have hd0 : dn.find? (noGap rows z) = none := List.find?_eq_none.2 fun q hq => by rw [hno q hq]; decide
   rw [hdn, List.find?_append, hd0, List.find?_cons, hng, hg]; rfl
  ·have hno' : ∀ q ∈ dn ++ [(r, s)], noGap rows z q = false := fun q hq => by
    rcases List.mem_append.1 hq with hq | hq
    ·exact hno q hq
    ·rw [List.mem_singleton] at hq
     rw [hq, hng, hg]; rfl
   cases dn with
   | nil =>
    simp only [go_sem, Nat.reduceEqDiff, Nat.reduceAdd, Nat.reduceLT, Nat.reduceLeDiff, reduceIte, v2, v3, v4, v5, v6, bB, gA, gA0, List.getElem?_cons_zero, List.getElem?_cons_succ, List.set, ha', hpb', idx_refs hp, refR, WB61, hsn, WVH_eq hgap, hg, sA, sA0, List.head?_nil, Option.isSome_none]
    refine ⟨t_, YEnd_lp (gA bl _ 7) ?_⟩
    dsimp only
    rw [sA]
    exact hk _ ⟨[(r, s)], hdn, hno', rfl⟩
   | cons d0 dn =>
    simp only [go_sem, Nat.reduceEqDiff, Nat.reduceAdd, Nat.reduceLT, Nat.reduceLeDiff, reduceIte, v2, v3, v4, v5, v6, bB, gA, gA0, List.getElem?_cons_zero, List.getElem?_cons_succ, List.set, ha', hpb', idx_refs hp, refR, WB61, hsn, WVH_eq hgap, hg, sA, sA0, List.head?_cons, Option.isSome_some]
    refine ⟨t_, YEnd_lp (gA bl _ 7) ?_⟩
    dsimp only
    rw [sA]
    exact hk _ ⟨d0 :: dn ++ [(r, s)], by rw [hdn]; simp, hno', rfl⟩
 ·rintro m' ⟨dn, hdn, hno, rfl⟩
  rw [List.append_nil] at hdn
  refine RgEnd_lp (gA bl _ 7) ?_
  dsimp only
  rw [sA]
  rw [← hdn] at hno ⊢
  exact hQ1 (List.find?_eq_none.2 fun q hq => by rw [hno q hq]; decide)
 ·rintro m' ⟨q, hq, rfl⟩
  refine RgEnd_ret (gA bl _ 7) ?_
  dsimp only
  rw [sA]
  exact hQ2 q hq
theorem plcF_mem {row : List Int} {z r : Nat} : ∀ {k s : Nat} {q : Nat × Nat}, q ∈ plcF row z r k s → q.1 = r ∧ s ≤ q.2 ∧ q.2 < s + k ∧ plcR row z (q.2 : Int) = true
 | 0, _, _, h => by simp [plcF] at h
 | k + 1, s, q, h => by
  rw [plcF] at h
  by_cases hp : plcR row z (s : Int) = true
  ·rw [if_pos hp] at h
   rcases List.mem_cons.1 h with rfl | h
   ·exact ⟨rfl, Nat.le_refl _, by dsimp only; omega, hp⟩
   ·obtain ⟨h1, h2, h3, h4⟩ := plcF_mem h
    exact ⟨h1, by omega, by omega, h4⟩
  ·rw [if_neg hp] at h
   obtain ⟨h1, h2, h3, h4⟩ := plcF_mem h
   exact ⟨h1, by omega, by omega, h4⟩
theorem plcs_mem {z : Nat} : ∀ {rows : List Rw} {k : Nat} {q : Nat × Nat}, q ∈ plcs z rows k → ∃ p, k ≤ q.1 ∧ rows[q.1 - k]? = some p ∧ q.2 + z ≤ p.2.length ∧ plcR p.2 z (q.2 : Int) = true
 | [], _, _, h => by simp [plcs] at h
 | p :: rest, k, q, h => by
  rw [plcs] at h
  rcases List.mem_append.1 h with h | h
  ·obtain ⟨h1, h2, h3, h4⟩ := plcF_mem h
   exact ⟨p, by omega, by rw [h1, Nat.sub_self]; rfl, by omega, h4⟩
  ·obtain ⟨p', h1, h2, h3, h4⟩ := plcs_mem h
   refine ⟨p', by omega, ?_, h3, h4⟩
   rw [show q.1 - k = (q.1 - (k + 1)) + 1 by omega, List.getElem?_cons_succ]; exact h2
def bestM (rows : List Rw) (z : Nat) : Option (Nat × Nat) := ((plcs z rows 0).find? (noGap rows z)).or (plcs z rows 0).head?
def bestA (o : Option (Nat × Nat)) : AV := .tup [I64 (f4 o), I64 (f5 o), .bool o.isSome]
theorem resOf_ccc (s : St) (a b c : Nat) (x y w : Option Nat) : resOf s [.cell a x, .cell b y, .cell c w] = (loadAt s.mem (s.env a) x).bind fun u => (loadAt s.mem (s.env b) y).bind fun v => (loadAt s.mem (s.env c) w).map fun t => .tup [u, v, t] := by
 simp only [resOf, resAll, resOne]
 cases loadAt s.mem (s.env a) x <;> cases loadAt s.mem (s.env b) y <;> cases loadAt s.mem (s.env c) w <;> rfl
theorem best_W {a : Nat} {rows : List Rw} {z : Nat} (hz : 1 ≤ z) (hz2 : z ≤ 1000) (hlen : rows.length ≤ 1000) (hrl : ∀ p ∈ rows, p.2.length ≤ 1000) (bl : List Blk) (tk : List (Nat × Nat)) (hF : HF a rows ⟨bl, tk⟩)
  (K : AV → Mem → Prop) (hK : ∀ ext, K (bestA (bestM rows z)) ⟨bl ++ ext, tk⟩) : WR ft (.f 40) [.ptr a 0 0, I64 (z : Int)] ⟨bl, tk⟩ K := by
 have hpl : ∀ q ∈ plcs z rows 0, q.2 ≤ 1000 := fun q hq => by
  obtain ⟨p, _, h2, h3, _⟩ := plcs_mem hq
  have := hrl p (List.mem_of_getElem? h2)
  omega
 rw [WR_f ft40 rfl]
 simp only [c40, r40]
 simp only [go_sem, Nat.reduceEqDiff, Nat.reduceAdd, Nat.reduceLT, Nat.reduceLeDiff, reduceIte, WB60, List.append_assoc, List.cons_append, List.nil_append, gA, gA0, List.length_append, List.length_cons, List.length_nil, Nat.add_assoc, List.getElem?_cons_zero, List.getElem?_cons_succ]
 show WR ft (.f 60) _ _ _
 refine places_W _ rfl rfl _ _ _ _ ?_
 simp only [go_sem, Nat.reduceEqDiff, Nat.reduceAdd, Nat.reduceLT, Nat.reduceLeDiff, reduceIte, List.append_assoc, List.cons_append, List.nil_append, List.length_append, List.length_cons, List.length_nil, Nat.add_assoc]
 refine best_range hz hz2 hlen hrl bl tk hF hpl _ rfl rfl rfl rfl rfl rfl _ (fun hn => ?_) fun q hq => ?_
 ·have hne : ((bl.length + 3 != bl.length + 2) && ((bl.length + 4 != bl.length + 2) && (bl.length + 4 != bl.length + 3))) = true := by simp
  simp only [go_sem, Nat.reduceEqDiff, Nat.reduceAdd, Nat.reduceLT, Nat.reduceLeDiff, reduceIte, bB, gA, gA0, List.getElem?_cons_zero, List.getElem?_cons_succ, List.set, sA, sA0, hne, resOf_ccc, Option.bind_some]
  have hb : bestM rows z = (plcs z rows 0).head? := by unfold bestM; rw [hn]; rfl
  rw [hb] at hK
  exact hK _
 ·simp only [go_sem, Nat.reduceEqDiff, Nat.reduceAdd, Nat.reduceLT, Nat.reduceLeDiff, reduceIte, bB, gA, gA0, List.getElem?_cons_zero, List.getElem?_cons_succ, List.set, sA, sA0, resOf_ccc, Option.bind_some]
  have hb : bestM rows z = some q := by unfold bestM; rw [hq]; rfl
  rw [hb] at hK
  exact hK _
end Go.Ab.T
end
