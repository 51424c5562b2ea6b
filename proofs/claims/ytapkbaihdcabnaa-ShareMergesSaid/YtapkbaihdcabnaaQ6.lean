/-
  A part of the proofs over this seat.
  (The texts KsK27 KsK28 KsK29 KsK30, one behind the other.)
-/
import Derived.Test.YtapkbaihdcabnaaQ5
import Derived.Test.YtapkbaihdcabnaaQ4
set_option linter.unusedSimpArgs false
set_option linter.unusedVariables false
set_option linter.unusedSectionVars false
section
namespace Go.Ab.T
set_option maxRecDepth 8000
set_option maxHeartbeats 4000000
/-- Reports in a block. -/
def Mx (bl : List Blk) (tk : List (Nat × Nat)) (id : Nat) (X : List Rp) : Mem := ⟨bl.set id (.live (X.map encR) 6), tk⟩
theorem Mx_blk {bl : List Blk} {tk : List (Nat × Nat)} {id : Nat} (h : id < bl.length) (X : List Rp) : (Mx bl tk id X).blks[id]? = some (.live (X.map encR) 6) := by
  unfold Mx; simp only; rw [List.getElem?_set_self h]
theorem Mx_idx {bl : List Blk} {tk : List (Nat × Nat)} {id : Nat} (h : id < bl.length) (X : List Rp) {off n i : Nat} (hi : i < n) : idxAt (Mx bl tk id X) (.ref id off n) (I64 (i : Int)) 6 = some (.ptr id (off + i) 0) := by
  rw [idxAt_ref, if_pos ⟨⟨by omega, by omega⟩, by rw [lsz_eq, Mx_blk h]; rfl⟩, Int.toNat_natCast]
theorem Mx_ld {bl : List Blk} {tk : List (Nat × Nat)} {id : Nat} (h : id < bl.length) {X : List Rp} {i : Nat} {x : Rp} (hi : X[i]? = some x) : loadAt (Mx bl tk id X) (.ptr id i 0) (some 6) = some (encR x) := by
  rw [loadAt_ptr, Mx_blk h]
  simp only [ldBlk_live, List.getElem?_map, hi, Option.map_some, ldEl_some]
  rfl
theorem Mx_st {bl : List Blk} {tk : List (Nat × Nat)} {id : Nat} (h : id < bl.length) {X : List Rp} {i : Nat} (hi : i < X.length) (y : Rp) : storeAt (Mx bl tk id X) (.ptr id i 0) (encR y) 6 = some (Mx bl tk id (X.set i y)) := by
  rw [storeAt_ptr, Mx_blk h]
  simp only [stBlk_live, List.getElem?_map, List.getElem?_eq_getElem hi, Option.map_some, stEl_some]
  rw [if_pos ⟨rfl, rfl⟩]
  show some (Mem.mk ((bl.set id (.live (X.map encR) 6)).set id (.live ((X.map encR).set i (encR y)) 6)) tk) = _
  unfold Mx
  rw [List.set_set, List.map_set]
theorem Mx_len {bl : List Blk} {tk : List (Nat × Nat)} {id : Nat} (h : id < bl.length) (X : List Rp) (off n : Nat) : lenAt (Mx bl tk id X) (.ref id off n) = some (I64 (n : Int)) := by
  rw [lenAt_ref, if_pos (by rw [lsz_eq, Mx_blk h]; rfl)]
theorem Mx_from {bl : List Blk} {tk : List (Nat × Nat)} {id : Nat} (h : id < bl.length) (X : List Rp) {n i : Nat} (hi : i < n) : sliceAt (Mx bl tk id X) (.ref id 0 n) (some (I64 (i : Int))) none 6 = some (.ref id i (n - i)) := by
  have hl : lsz (Mx bl tk id X) id = some 6 := by rw [lsz_eq, Mx_blk h]; rfl
  simp only [sliceAt, hl, if_true]
  have hb : bounds n (some (I64 (i : Int))) none = some (i, n) := by
    simp [bounds, asInt]; omega
  rw [hb, Option.map_some]
  dsimp only
  rw [if_neg (by omega), Nat.zero_add]
theorem Mx_to {m : Mem} {id : Nat} (hl : lsz m id = some 6) {n i : Nat} (hi : i ≤ n) : sliceAt m (.ref id 0 n) none (some (I64 (i : Int))) 6 = some (.ref id 0 i) := by
  simp only [sliceAt, hl, if_true]
  have hb : bounds n none (some (I64 (i : Int))) = some (0, i) := by
    simp [bounds, asInt]; omega
  rw [hb, Option.map_some]
  dsimp only
  rw [if_neg (by omega), Nat.zero_add, Nat.sub_zero]
theorem cmp_step {l : List Rp} {j : Nat} {p x : Rp} (hp : l[j]? = some p) (hx : l[j + 1]? = some x) : cmpF (l.take (j + 2)) = if eqR x p = true then cmpF (l.take (j + 1)) else cmpF (l.take (j + 1)) ++ [x] := by
  have h1 : (cmpF (l.take (j + 1))).getLast? = some p := by rw [take_snoc hp, cmpF_snoc, stp_last]
  rw [take_snoc hx, cmpF_snoc]
  conv => lhs; unfold stp
  rw [h1]
theorem Compact_run {bl : List Blk} {tk : List (Nat × Nat)} {id : Nat} (h : id < bl.length) (l : List Rp) (hn : l.length ≤ 10000) (K : AV → Mem → Prop)
    (hK : ∀ m' es, m'.blks[id]? = some (.live es 6) → es.take (cmpF l).length = (cmpF l).map encR → (cmpF l).length ≤ es.length → K (.ref id 0 (cmpF l).length) m') : WR ft (.f 80) [.ref id 0 l.length] (Mx bl tk id l) K := by
  rw [WR_f ft80 rfl]
  simp only [c80, r80]
  have hL := fun X off n => Mx_len (tk := tk) h X off n
  have hself : cmpF l = l → K (.ref id 0 l.length) (Mx bl tk id l) := fun e => by
    have := hK (Mx bl tk id l) (l.map encR) (Mx_blk h l) (by rw [e, ← List.length_map (f := encR), List.take_length]) (by rw [e, List.length_map]; exact Nat.le_refl _)
    rwa [e] at this
  cases c1 : decide ((l.length : Int) < 2)
  case true =>
    have h2 : l.length < 2 := by have := of_decide_eq_true c1; omega
    simp only [go_sem, Nat.reduceEqDiff, Nat.reduceAdd, Nat.reduceLT, Nat.reduceLeDiff, reduceIte, hL, c1]
    refine hself ?_
    match l, h2 with
    | [], _ => rfl
    | [x], _ => rfl
  have h2 : 2 ≤ l.length := by have := of_decide_eq_false c1; omega
  simp only [go_sem, Nat.reduceEqDiff, Nat.reduceAdd, Nat.reduceLT, Nat.reduceLeDiff, reduceIte, hL, c1]
  refine WL_inv (α := Nat) (fun q e mm => e 0 = .ref id 0 l.length ∧ e 3 = I64 q ∧ 1 ≤ q ∧ q ≤ l.length ∧ cmpF (l.take q) = l.take q ∧ mm = Mx bl tk id l) (fun q => l.length - q) 1 ?_ ?_
  · simp only [go_sem, Nat.reduceEqDiff, Nat.reduceAdd, Nat.reduceLT, Nat.reduceLeDiff, reduceIte]
    refine ⟨trivial, rfl, by first | trivial | omega, by first | trivial | omega, ?_, trivial⟩
    match l, h2 with
    | x :: l, _ => rfl
  rintro q e m ⟨g0, g3, hq1, hqn, hc, rfl⟩
  obtain ⟨i, rfl⟩ : ∃ i, q = i + 1 := ⟨q - 1, by omega⟩
  by_cases hlt : i + 1 < l.length
  case neg =>
    have e1 : i + 1 = l.length := by omega
    rw [e1, List.take_length] at hc
    simp only [go_sem, Nat.reduceEqDiff, Nat.reduceAdd, Nat.reduceLT, Nat.reduceLeDiff, reduceIte, g0, g3, hL, dec_ge (show l.length ≤ i + 1 by omega)]
    exact hself hc
  have hx := List.getElem?_eq_getElem hlt
  have hp := List.getElem?_eq_getElem (show i < l.length by omega)
  have hs := cmp_step hp hx
  have w1 : IntKind.i64.wrap (((i + 1 : Nat) : Int) - 1) = (i : Int) := by rw [wrap_i64 _ (by omega) (by omega)]; omega
  have i1 := Mx_idx (tk := tk) h l (off := 0) hlt
  have i2 := Mx_idx (tk := tk) h l (off := 0) (show i < l.length by omega)
  rw [Nat.zero_add] at i1 i2
  have d1 := Mx_ld (tk := tk) h hx
  have d2 := Mx_ld (tk := tk) h hp
  generalize l[i + 1] = x at hx hs d1
  generalize l[i] = p at hp hs d2
  cases e1 : eqR x p
  case false =>
    rw [e1, if_neg (by decide), hc, ← take_snoc hx] at hs
    simp only [go_sem, Nat.reduceEqDiff, Nat.reduceAdd, Nat.reduceLT, Nat.reduceLeDiff, reduceIte, g0, g3, hL, dec_lt hlt, i1, i2, d1, d2, w1, e1, Bool.false_eq_true, if_false, wrap_n1 (i + 1) (by omega)]
    refine Nx_of (i + 2) (by omega) ?_
    simp only [go_sem, Nat.reduceEqDiff, Nat.reduceAdd, Nat.reduceLT, Nat.reduceLeDiff, reduceIte, g0]
    exact ⟨trivial, trivial, by first | trivial | omega, by first | trivial | omega, hs, trivial⟩
  rw [e1, if_pos rfl, hc] at hs
  have f1 := Mx_from (tk := tk) h l hlt
  simp only [go_sem, Nat.reduceEqDiff, Nat.reduceAdd, Nat.reduceLT, Nat.reduceLeDiff, reduceIte, g0, g3, hL, dec_lt hlt, i1, i2, d1, d2, w1, e1, f1, Bool.false_eq_true, if_false]
  refine WL_inv (α := Nat × Nat × List Rp) (fun q e mm => e 0 = .ref id 0 l.length ∧ e 3 = I64 q.2.1 ∧ e 4 = .ref id (i + 1) (l.length - (i + 1)) ∧ e 5 = I64 q.1 ∧ 1 ≤ q.1 ∧ q.1 ≤ l.length - (i + 1) ∧ q.2.1 ≤ i + q.1 ∧ q.2.2.length = l.length ∧ q.2.2.take q.2.1 = cmpF (l.take (i + 1 + q.1)) ∧ (∀ j, i + q.1 ≤ j → q.2.2[j]? = l[j]?) ∧ mm = Mx bl tk id q.2.2) (fun q => l.length - (i + 1) - q.1) (1, i + 1, l) ?_ ?_
  · simp only [go_sem, Nat.reduceEqDiff, Nat.reduceAdd, Nat.reduceLT, Nat.reduceLeDiff, reduceIte, g0, g3]
    exact ⟨trivial, trivial, trivial, rfl, by first | trivial | omega, by first | trivial | omega, by first | trivial | omega, trivial, hs.symm, fun j _ => trivial, trivial⟩
  rintro ⟨k, a, X⟩ e m ⟨g0, g3, g4, g5, hk1, hkn, ha, hXl, hXt, hXr, rfl⟩
  dsimp only at g3 g5 hk1 hkn ha hXl hXt hXr
  obtain ⟨k, rfl⟩ : ∃ j, k = j + 1 := ⟨k - 1, by omega⟩
  by_cases hkl : k + 1 < l.length - (i + 1)
  · have hy : l[i + 1 + (k + 1)]? = some (l[i + 1 + (k + 1)]'(by omega)) := List.getElem?_eq_getElem (by omega)
    have hz : l[i + 1 + k]? = some (l[i + 1 + k]'(by omega)) := List.getElem?_eq_getElem (by omega)
    have hs2 := cmp_step (j := i + 1 + k) hz (by rw [← hy]; rfl)
    have j1 := Mx_idx (tk := tk) h X (off := i + 1) hkl
    have j2 := Mx_idx (tk := tk) h X (off := i + 1) (show k < l.length - (i + 1) by omega)
    have t1 := Mx_ld (tk := tk) h (X := X) (i := i + 1 + (k + 1)) (by rw [hXr _ (by omega)]; exact hy)
    have t2 := Mx_ld (tk := tk) h (X := X) (i := i + 1 + k) (by rw [hXr _ (by omega)]; exact hz)
    have w2 : IntKind.i64.wrap (((k + 1 : Nat) : Int) - 1) = (k : Int) := by rw [wrap_i64 _ (by omega) (by omega)]; omega
    generalize l[i + 1 + (k + 1)]'(by omega) = y at hy hs2 t1
    generalize l[i + 1 + k]'(by omega) = z at hz hs2 t2
    have ea : i + 1 + (k + 1) = i + 1 + k + 1 := by omega
    rw [ea] at hXt
    cases e2 : eqR y z
    · rw [e2, if_neg (by decide), ← hXt] at hs2
      have s1 := Mx_idx (tk := tk) h X (off := 0) (show a < l.length by omega)
      rw [Nat.zero_add] at s1
      have s2 := Mx_st (tk := tk) h (X := X) (i := a) (by omega) y
      simp only [go_sem, Nat.reduceEqDiff, Nat.reduceAdd, Nat.reduceLT, Nat.reduceLeDiff, reduceIte, g0, g3, g4, g5, hL, dec_lt hkl, j1, j2, t1, t2, w2, e2, Bool.false_eq_true, if_false, s1, s2, wrap_n1 a (by omega), wrap_n1 (k + 1) (by omega)]
      refine Nx_of (k + 2, a + 1, X.set a y) (by dsimp only; omega) ?_
      simp only [go_sem, Nat.reduceEqDiff, Nat.reduceAdd, Nat.reduceLT, Nat.reduceLeDiff, reduceIte, g0, g4]
      refine ⟨trivial, trivial, trivial, trivial, by first | trivial | omega, by first | trivial | omega, by first | trivial | omega, by simp [hXl], ?_, fun j hj => ?_, trivial⟩
      · rw [show i + 1 + (k + 2) = i + 1 + k + 2 by omega, hs2]
        have hg : (X.set a y)[a]? = some y := List.getElem?_set_self (by omega)
        rw [take_snoc hg, List.take_set, List.set_eq_of_length_le (by rw [List.length_take]; exact Nat.min_le_left _ _)]
      · rw [List.getElem?_set_ne (by omega)]; exact hXr j (by omega)
    · rw [e2, if_pos rfl, ← hXt] at hs2
      simp only [go_sem, Nat.reduceEqDiff, Nat.reduceAdd, Nat.reduceLT, Nat.reduceLeDiff, reduceIte, g0, g3, g4, g5, hL, dec_lt hkl, j1, j2, t1, t2, w2, e2, Bool.false_eq_true, if_false, wrap_n1 (k + 1) (by omega)]
      refine Nx_of (k + 2, a, X) (by dsimp only; omega) ?_
      simp only [go_sem, Nat.reduceEqDiff, Nat.reduceAdd, Nat.reduceLT, Nat.reduceLeDiff, reduceIte, g0, g3, g4]
      exact ⟨trivial, trivial, trivial, trivial, by first | trivial | omega, by first | trivial | omega, by first | trivial | omega, hXl, by rw [show i + 1 + (k + 2) = i + 1 + k + 2 by first | trivial | omega, hs2], fun j hj => hXr j (by first | trivial | omega), trivial⟩
  · have ea : i + 1 + (k + 1) = l.length := by omega
    rw [ea, List.take_length] at hXt
    have hal : (cmpF l).length = a := by rw [← hXt, List.length_take]; omega
    have f2 := Mx_from (tk := tk) h X (show a < l.length by omega)
    obtain ⟨M, hM, hMb⟩ : ∃ M, clearAt (Mx bl tk id X) (.ref id a (l.length - a)) zRv 6 = some M ∧ ∃ es, M.blks[id]? = some (.live es 6) ∧ es.take a = (cmpF l).map encR ∧ a ≤ es.length := by
      have hlen : (X.map encR).length = l.length := by rw [List.length_map, hXl]
      refine ⟨⟨(Mx bl tk id X).blks.set id (.live ((X.map encR).take a ++ List.replicate (l.length - a) zRv ++ (X.map encR).drop (a + (l.length - a))) 6), tk⟩, ?_, (X.map encR).take a ++ List.replicate (l.length - a) zRv ++ (X.map encR).drop (a + (l.length - a)), ?_, ?_, ?_⟩
      · simp only [clearAt, Mx_blk h]
        rw [if_pos ⟨⟨⟨by rw [hlen]; omega, by omega⟩, trivial⟩, rfl, rfl⟩]
        rfl
      · simp only
        rw [List.getElem?_set_self]
        unfold Mx
        simpa using h
      · rw [List.append_assoc, List.take_append_of_le_length (by rw [List.length_take, hlen]; omega), List.take_take, Nat.min_self, ← List.map_take, hXt]
      · rw [List.length_append, List.length_append, List.length_take, hlen]; omega
    obtain ⟨es, hb1, hb2, hb3⟩ := hMb
    have f3 := Mx_to (m := M) (id := id) (by rw [lsz_eq, hb1]; rfl) (show a ≤ l.length by omega)
    unfold zRv at hM
    simp only [go_sem, Nat.reduceEqDiff, Nat.reduceAdd, Nat.reduceLT, Nat.reduceLeDiff, reduceIte, g0, g3, g4, g5, hL, dec_ge (show l.length - (i + 1) ≤ k + 1 by omega), f2, hM, f3]
    rw [← hal]
    exact hK M es hb1 (by rw [hal]; exact hb2) (by rw [hal]; exact hb3)
end Go.Ab.T
end

section
namespace Go.Ab.T
set_option maxRecDepth 8000
set_option maxHeartbeats 4000000
theorem eachOnce_ok (l1 l2 : List Rp) (h1 : l1.length ≤ 1000) (h2 : l2.length ≤ 1000) : ∃ S : List Rp, S.Perm (l1 ++ l2) ∧ S.Pairwise (fun a b => a.id ≤ b.id) ∧ RV ft 50 [encRs l1, encRs l2] (encRs (cmpF S)) := by
  have h : WR ft (.f 50) [encRs l1, encRs l2] .nil fun v m => ∃ S : List Rp, S.Perm (l1 ++ l2) ∧ S.Pairwise (fun a b => a.id ≤ b.id) ∧ snap m dep v = encRs (cmpF S) := by
    rw [WR_f ft50 rfl]
    simp only [c50, r50]
    have sn2 : ∀ m : Mem, snap m 12 (.sl [encRs l1, encRs l2] .tight) = .sl [encRs l1, encRs l2] .unk := fun m => by
      show AV.sl [snap m 11 (encRs l1), snap m 11 (encRs l2)] .unk = _
      rw [show snap m 11 (encRs l1) = encRs l1 from snRs m 8 l1, show snap m 11 (encRs l2) = encRs l2 from snRs m 8 l2]
    have ht2 : hot 12 (.sl [encRs l1, encRs l2] .tight) = false := by
      show (hot 11 (encRs l1) || (hot 11 (encRs l2) || false)) = false
      rw [show hot 11 (encRs l1) = false from hotRs 8 l1, show hot 11 (encRs l2) = false from hotRs 8 l2]; rfl
    simp only [go_sem, Nat.reduceEqDiff, Nat.reduceAdd, Nat.reduceLT, Nat.reduceLeDiff, reduceIte, WB76, sn2]
    refine WR_mono (Concat_run l1 l2 h1 h2) fun v m h => ?_
    rcases h with ⟨he, rfl, rfl⟩ | ⟨hne, rfl, rfl⟩
    · simp only [go_sem, Nat.reduceEqDiff, Nat.reduceAdd, Nat.reduceLT, Nat.reduceLeDiff, reduceIte, ht2, WB77]
      refine ⟨trivial, ?_⟩
      show WR ft (.f 77) [.sl [] .tight, .fn 78 [] []] ⟨[], []⟩ _
      refine Srt.sortFunc_nil rSort rPdq _ _ ?_
      simp only [go_sem, Nat.reduceEqDiff, Nat.reduceAdd, Nat.reduceLT, Nat.reduceLeDiff, reduceIte, WB80]
      show WR ft (.f 80) [.sl [] .tight] ⟨[], []⟩ _
      rw [WR_f ft80 rfl]
      simp only [c80, r80]
      simp only [go_sem, Nat.reduceEqDiff, Nat.reduceAdd, Nat.reduceLT, Nat.reduceLeDiff, reduceIte, List.length_nil, show decide (((0 : Nat) : Int) < 2) = true from rfl]
      exact ⟨[], by rw [he], .nil, rfl⟩
    · obtain ⟨L, hL⟩ : ∃ L, L = l1 ++ l2 := ⟨_, rfl⟩
      have hll : L.length ≤ 2000 := by rw [hL, List.length_append]; omega
      rw [← hL]
      have hsh : (L.map encR).map (Ab.shift 0 0 12) = L.map encR := by
        rw [List.map_map, show Ab.shift 0 0 12 ∘ encR = encR from funext fun c => rfl]
      simp only [go_sem, Nat.reduceEqDiff, Nat.reduceAdd, Nat.reduceLT, Nat.reduceLeDiff, reduceIte, ht2, WB77, joinMem]
      refine ⟨trivial, ?_⟩
      show WR ft (.f 77) [.ref (0 + 0) 0 L.length, .fn 78 [] []] ⟨[.live ((L.map encR).map (Ab.shift 0 0 12)) 6], []⟩ _
      rw [hsh]
      refine sortR_run (id := 0) (l := L) rfl (by omega) _ fun l' m' p1 p2 p3 p4 p5 p6 => ?_
      obtain ⟨bl, tk⟩ := m'
      dsimp only at p3 p5
      have hbl : 0 < bl.length := by simp only [List.length_cons, List.length_nil] at p5; omega
      have hM : (⟨bl, tk⟩ : Mem) = Mx bl tk 0 l' := by
        unfold Mx
        congr 1
        refine List.ext_getElem? fun i => ?_
        by_cases hi : 0 = i
        · subst hi; rw [List.getElem?_set_self hbl, p3]
        · rw [List.getElem?_set_ne hi]
      simp only [go_sem, Nat.reduceEqDiff, Nat.reduceAdd, Nat.reduceLT, Nat.reduceLeDiff, reduceIte, WB80]
      show WR ft (.f 80) [.ref (0 + 0) 0 L.length] ⟨bl, tk⟩ _
      rw [hM, ← p1.length_eq]
      refine Compact_run (id := 0) hbl l' (by rw [p1.length_eq]; omega) _ fun m2 es q1 q2 q3 => ?_
      simp only [go_sem, Nat.reduceEqDiff, Nat.reduceAdd, Nat.reduceLT, Nat.reduceLeDiff, reduceIte]
      refine ⟨l', p1, p2, ?_⟩
      have e : snap m2 12 (.ref 0 0 (cmpF l').length) = encRs (cmpF l') := by
        simp only [snap_ref, elems_ref, q1, elBlk_live]
        rw [if_pos (by omega), List.drop_zero, q2]
        show AV.sl (((cmpF l').map encR).map (snap m2 11)) .unk = _
        rw [List.map_map, show snap m2 11 ∘ encR = encR from funext fun c => snR m2 9 c]; rfl
      exact e
  obtain ⟨n, p, h1, S, h2, h3, h4⟩ := h
  exact ⟨S, h2, h3, n, by simp only [callV, h1, Option.map_some, h4]⟩
theorem rsOK_len {cs : List Ct} {l : List Rp} (h : rsOK cs l = true) : l.length ≤ 40 := by
  unfold rsOK at h
  simp only [Bool.and_eq_true, decide_eq_true_eq] at h
  omega
theorem rsOK_id {cs : List Ct} {l : List Rp} (h : rsOK cs l = true) : ∀ r ∈ l, 0 ≤ r.id ∧ r.id ≤ 99 := fun r hr => by
  unfold rsOK at h
  simp only [Bool.and_eq_true, List.all_eq_true] at h
  have := rpOK_RV (h.2 r hr)
  exact ⟨this.i0, this.i1⟩
theorem Merge_ok (b : Bk) (h : NF b) (hs : ∀ c ∈ b.cs, c.st.length ≤ 1000 ∧ c.ti.length ≤ 1000) (more : List Rp) (hm : more.length < 1073741824) : RV ft 24 [encB b, encRs more] (.tup [encB (mergeM b more).1, I64 (mergeM b more).2]) := by
  refine RV_of ft24 rfl ?_
  simp only [c24, r24]
  have hC := Check_ok b h
  unfold mergeM
  by_cases h0 : chk b = 0
  case neg =>
    rw [if_neg h0]
    simp only [go_sem, Nat.reduceEqDiff, Nat.reduceAdd, Nat.reduceLT, Nat.reduceLeDiff, reduceIte, WB31, WVH_eq hC, true_and, ne0 h0]
    try rfl
  rw [h0] at hC
  rw [if_pos h0]
  have hb := chk_BV h0
  have hcl := hb.cl
  have hrl := hb.rl
  have z : ((0 : Int) != 0) = false := rfl
  have hV := validReports_ok b more h.c hm
  cases c1 : rsOK b.cs more
  case false =>
    rw [c1] at hV
    simp only [go_sem, Nat.reduceEqDiff, Nat.reduceAdd, Nat.reduceLT, Nat.reduceLeDiff, reduceIte, WB31, WVH_eq hC, true_and, z, WB49, WVH_eq hV]
    try rfl
  rw [c1] at hV
  rw [if_pos rfl]
  have hml := rsOK_len c1
  obtain ⟨S, s1, s2, hE⟩ := eachOnce_ok b.rs more (by omega) (by omega)
  have hi : ∀ r ∈ b.rs ++ more, 0 ≤ r.id ∧ r.id ≤ 99 := fun r hr => by
    rcases List.mem_append.1 hr with hr | hr
    · have := hb.rv r hr; exact ⟨this.i0, this.i1⟩
    · exact rsOK_id c1 r hr
  have hcc := cmpF_clsh s1
  have hK := clash_ok (cmpF S) (by
    have : ∀ (l acc : List Rp), (cmpG acc l).length ≤ acc.length + l.length := by
      intro l
      induction l with
      | nil => intro acc; exact Nat.le_refl _
      | cons x l ih =>
        intro acc
        rw [cmpG_cons]
        have h1 := ih (stp acc x)
        have h2 : (stp acc x).length ≤ acc.length + 1 := by
          unfold stp
          split
          · split
            · omega
            · simp
          · simp
        rw [List.length_cons]; omega
    have h1 := this S []
    have h2 := s1.length_eq
    rw [List.length_append] at h2
    show (cmpG [] S).length < _
    rw [List.length_nil] at h1
    omega)
  rw [hcc] at hK
  have hCp := copyContracts_ok b.cs (by omega) hs
  cases c2 : clsh [] (b.rs ++ more)
  case true =>
    rw [c2] at hK
    rw [if_pos rfl]
    cases c3 : decide ((40 : Int) < ((cmpF S).length : Int))
    all_goals
      simp only [go_sem, Nat.reduceEqDiff, Nat.reduceAdd, Nat.reduceLT, Nat.reduceLeDiff, reduceIte, WB31, WVH_eq hC, true_and, z, WB49, WVH_eq hV, WB50, WVH_eq hE, c3, WB51, WVH_eq hK]
      try rfl
  rw [c2] at hK
  rw [if_neg (by decide)]
  have hd := cmpF_dst s1 s2 c2 hi
  rw [hd] at hE hK
  by_cases h40 : 40 < (dst (b.rs ++ more)).length
  · have c3 : decide ((40 : Int) < ((dst (b.rs ++ more)).length : Int)) = true := decide_eq_true (by omega)
    rw [if_pos h40]
    simp only [go_sem, Nat.reduceEqDiff, Nat.reduceAdd, Nat.reduceLT, Nat.reduceLeDiff, reduceIte, WB31, WVH_eq hC, true_and, z, WB49, WVH_eq hV, WB50, WVH_eq hE, c3]
    try rfl
  · have c3 : decide ((40 : Int) < ((dst (b.rs ++ more)).length : Int)) = false := decide_eq_false (by omega)
    rw [if_neg h40]
    simp only [go_sem, Nat.reduceEqDiff, Nat.reduceAdd, Nat.reduceLT, Nat.reduceLeDiff, reduceIte, WB31, WVH_eq hC, true_and, z, WB49, WVH_eq hV, WB50, WVH_eq hE, c3, WB51, WVH_eq hK, WB52, WVH_eq hCp]
    try rfl
end Go.Ab.T
end

section
namespace Go.Ab.T
set_option maxRecDepth 8000
set_option maxHeartbeats 4000000
theorem Rs_idxT {l : List Rp} {k : Nat} {x : Rp} (h : l[k]? = some x) (m : Mem) (tk : Tk) : idxAt m (.sl (l.map encR) tk) (I64 (k : Int)) 6 = some (.pv (encR x) 0) := by
  rw [idxAt_sl, if_pos (by omega), Int.toNat_natCast, Rs_get, h]
  rfl
theorem snRsT (m : Mem) (q : Nat) (l : List Rp) (tk : Tk) : snap m (q + 3) (.sl (l.map encR) tk) = encRs l := by
  show AV.sl ((l.map encR).map (snap m (q + 2))) .unk = _
  rw [List.map_map, show snap m (q + 2) ∘ encR = encR from funext fun t => snR m q t]; rfl
theorem hotRsT (q : Nat) (l : List Rp) (tk : Tk) : hot (q + 3) (.sl (l.map encR) tk) = false := by
  show (l.map encR).any (hot (q + 2)) = false
  rw [List.any_map, List.any_eq_false]; intro x _; simp only [Function.comp]; rw [show hot (q + 2) (encR x) = false from hotR q x]; decide
theorem cellsR (l : List Rp) : ∀ e ∈ l.map encR, e.cells.length = 6 := fun e he => by
  obtain ⟨x, _, rfl⟩ := List.mem_map.1 he; rfl
theorem distinct_ok (L : List Rp) (hl : L.length ≤ 100) : RV ft 66 [encRs L] (encRs (distM L)) := by
  refine RV_of ft66 rfl ?_
  simp only [c66, r66]
  simp only [go_sem, Nat.reduceEqDiff, Nat.reduceAdd, Nat.reduceLT, Nat.reduceLeDiff, reduceIte]
  refine WL_inv (α := Nat × Nat × List Rp) (fun q e mm => e 0 = encRs L ∧ e 4 = I64 q.2.1 ∧ q.1 + q.2.1 = 100 ∧ q.2.2 ++ dsG L q.1 q.2.1 = distM L ∧ q.2.2.length ≤ q.2.1 * 100 ∧ ∃ tk, mm = ⟨[], tk⟩ ∧ AppV 52 (q.2.2.map encR) (e 3) tk) (fun q => q.1) (100, 0, []) ?_ ?_
  · simp only [go_sem, Nat.reduceEqDiff, Nat.reduceAdd, Nat.reduceLT, Nat.reduceLeDiff, reduceIte]
    exact ⟨trivial, rfl, trivial, rfl, by simp, _, rfl, .inl ⟨rfl, rfl⟩⟩
  rintro ⟨n, f, out⟩ e m ⟨g0, g4, hnf, hq, hlo, tk, rfl, hA⟩
  dsimp only at g4 hnf hq hlo hA
  obtain ⟨V, g3⟩ : ∃ v, v = e 3 := ⟨_, rfl⟩
  rw [← g3] at hA
  replace g3 := g3.symm
  obtain ⟨t3, rfl⟩ := hA.sl
  cases n with
  | zero =>
    have c1 : decide ((f : Int) ≤ 99) = false := decide_eq_false (by omega)
    have e1 : out = distM L := by rw [← hq]; simp [dsG]
    simp only [go_sem, Nat.reduceEqDiff, Nat.reduceAdd, Nat.reduceLT, Nat.reduceLeDiff, reduceIte, g0, g4, g3, c1]
    rw [← e1]
    exact snRsT _ 9 out t3
  | succ n =>
  have c1 : decide ((f : Int) ≤ 99) = true := decide_eq_true (by omega)
  have hq2 : (out ++ dsC (f : Int) L) ++ dsG L n ((f + 1 : Nat) : Int) = distM L := by
    rw [← hq, List.append_assoc, show ((f + 1 : Nat) : Int) = (f : Int) + 1 by omega]; rfl
  simp only [go_sem, Nat.reduceEqDiff, Nat.reduceAdd, Nat.reduceLT, Nat.reduceLeDiff, reduceIte, g0, g4, g3, c1, List.length_map]
  refine WL_inv (α := Nat × List Rp × List Rp) (fun q e mm => e 0 = encRs L ∧ e 4 = I64 f ∧ e 5 = I64 out.length ∧ e 6 = I64 q.1 ∧ L.drop q.1 = q.2.1 ∧ q.2.1.foldl (dsS (f : Int)) q.2.2 = dsC (f : Int) L ∧ q.2.2.length ≤ q.1 ∧ ∃ tk, mm = ⟨[], tk⟩ ∧ AppV 52 ((out ++ q.2.2).map encR) (e 3) tk) (fun q => q.2.1.length) (0, L, []) ?_ ?_
  · simp only [go_sem, Nat.reduceEqDiff, Nat.reduceAdd, Nat.reduceLT, Nat.reduceLeDiff, reduceIte, g0, g4, g3]
    exact ⟨trivial, trivial, trivial, rfl, trivial, rfl, by simp, _, rfl, hA⟩
  rintro ⟨i, r, acc⟩ e m ⟨g0, g4, g5, g6, hd, hf, hla, tk, rfl, hA⟩
  dsimp only at g6 hd hf hla hA
  obtain ⟨V, g3⟩ : ∃ v, v = e 3 := ⟨_, rfl⟩
  rw [← g3] at hA
  replace g3 := g3.symm
  obtain ⟨t3, rfl⟩ := hA.sl
  cases r with
  | nil =>
    have h3 := drop_nil hd
    have hf : acc = dsC (f : Int) L := hf
    rw [← hf] at hq2
    have hil : acc.length ≤ 100 := by rw [hf]; have := dsF_len (f : Int) L []; unfold dsC; simp only [List.length_nil] at this; omega
    simp only [go_sem, Nat.reduceEqDiff, Nat.reduceAdd, Nat.reduceLT, Nat.reduceLeDiff, reduceIte, g0, g4, g5, g6, g3, dec_ge h3, wrap_n1 f (by omega)]
    refine Nx_of (n, f + 1, out ++ acc) (by simp) ?_
    simp only [go_sem, Nat.reduceEqDiff, Nat.reduceAdd, Nat.reduceLT, Nat.reduceLeDiff, reduceIte, g0, g3]
    exact ⟨trivial, trivial, by omega, hq2, by rw [List.length_append]; omega, _, rfl, hA⟩
  | cons x r =>
  obtain ⟨hk, hd2, hlt⟩ := drop_cons hd
  rw [List.foldl_cons] at hf
  simp only [go_sem, Nat.reduceEqDiff, Nat.reduceAdd, Nat.reduceLT, Nat.reduceLeDiff, reduceIte, g0, g4, g5, g6, g3, dec_lt hlt, Rs_idx hk]
  refine WL_inv (α := Nat × List Rp × Bool) (fun q e mm => e 0 = encRs L ∧ e 3 = .sl ((out ++ acc).map encR) t3 ∧ e 4 = I64 f ∧ e 5 = I64 out.length ∧ e 6 = I64 i ∧ e 7 = .bool q.2.2 ∧ e 8 = I64 ((out.length + q.1 : Nat) : Int) ∧ acc.drop q.1 = q.2.1 ∧ (q.2.2 || q.2.1.any fun y => eqR y x) = (x.id != (f : Int) || acc.any fun y => eqR y x) ∧ mm = ⟨[], tk⟩) (fun q => q.2.1.length) (0, acc, x.id != (f : Int)) ?_ ?_
  · simp only [go_sem, Nat.reduceEqDiff, Nat.reduceAdd, Nat.reduceLT, Nat.reduceLeDiff, reduceIte, g0, g4, g5, g6, g3]
    try ((repeat' apply And.intro) <;> first | trivial | rfl | omega | assumption)
  rintro ⟨j, ra, kn⟩ e m ⟨g0, g3, g4, g5, g6, g7, g8, hj, hkn, rfl⟩
  dsimp only at g7 g8 hj hkn
  have hol : (out ++ acc).length = out.length + acc.length := List.length_append
  cases ra with
  | nil =>
    have h3 := drop_nil hj
    have hkn : kn = (x.id != (f : Int) || acc.any fun y => eqR y x) := by rw [← hkn]; simp
    have hS : dsS (f : Int) acc x = if kn = true then acc else acc ++ [x] := by rw [hkn]; rfl
    cases kn
    · rw [if_neg (by decide)] at hS
      rw [hS] at hf
      simp only [go_sem, Nat.reduceEqDiff, Nat.reduceAdd, Nat.reduceLT, Nat.reduceLeDiff, reduceIte, g0, g3, g4, g5, g6, g7, g8, List.length_map, hol, dec_ge (show out.length + acc.length ≤ out.length + j by omega), Rs_idx hk]
      refine hA.app (y := encR x) (sz := 6) (bytes := 48) (cellsR _) rfl (by simp only [List.length_map, List.length_append, limit]; omega) fun v' tk' hv _ => ?_
      have em : (out ++ acc).map encR ++ [encR x] = (out ++ (acc ++ [x])).map encR := by simp
      rw [em] at hv
      simp only [go_sem, Nat.reduceEqDiff, Nat.reduceAdd, Nat.reduceLT, Nat.reduceLeDiff, reduceIte, g0, g4, g5, g6, wrap_n1 i (by omega)]
      refine Nx_of (i + 1, r, acc ++ [x]) (by simp) ?_
      simp only [go_sem, Nat.reduceEqDiff, Nat.reduceAdd, Nat.reduceLT, Nat.reduceLeDiff, reduceIte, g0, g4, g5]
      exact ⟨trivial, trivial, trivial, trivial, hd2, hf, by simp; omega, _, rfl, hv⟩
    · rw [if_pos rfl] at hS
      rw [hS] at hf
      simp only [go_sem, Nat.reduceEqDiff, Nat.reduceAdd, Nat.reduceLT, Nat.reduceLeDiff, reduceIte, g0, g3, g4, g5, g6, g7, g8, List.length_map, hol, dec_ge (show out.length + acc.length ≤ out.length + j by omega), wrap_n1 i (by omega)]
      refine Nx_of (i + 1, r, acc) (by simp) ?_
      simp only [go_sem, Nat.reduceEqDiff, Nat.reduceAdd, Nat.reduceLT, Nat.reduceLeDiff, reduceIte, g0, g3, g4, g5]
      exact ⟨trivial, trivial, trivial, trivial, hd2, hf, by omega, _, rfl, hA⟩
  | cons y ra =>
    obtain ⟨hk2, hj2, hlt2⟩ := drop_cons hj
    have hg : (out ++ acc)[out.length + j]? = some y := by rw [List.getElem?_append_right (by omega), Nat.add_sub_cancel_left]; exact hk2
    have wj : IntKind.i64.wrap (((out.length + j : Nat) : Int) + 1) = ((out.length + (j + 1) : Nat) : Int) := by rw [wrap_i64 _ (by omega) (by omega)]; omega
    rw [List.any_cons] at hkn
    cases kn
    · rw [Bool.false_or] at hkn
      simp only [go_sem, Nat.reduceEqDiff, Nat.reduceAdd, Nat.reduceLT, Nat.reduceLeDiff, reduceIte, g0, g3, g4, g5, g6, g7, g8, List.length_map, hol, dec_lt (show out.length + j < out.length + acc.length by omega), Rs_idxT hg, Rs_idx hk, wj]
      refine Nx_of (j + 1, ra, eqR y x) (by simp) ?_
      simp only [go_sem, Nat.reduceEqDiff, Nat.reduceAdd, Nat.reduceLT, Nat.reduceLeDiff, reduceIte, g0, g3, g4, g5, g6]
      exact ⟨by first | trivial | rfl, by first | trivial | rfl, by first | trivial | rfl, by first | trivial | rfl, by first | trivial | rfl, by first | trivial | rfl, by first | trivial | rfl, hj2, hkn, by first | trivial | rfl⟩
    · simp only [go_sem, Nat.reduceEqDiff, Nat.reduceAdd, Nat.reduceLT, Nat.reduceLeDiff, reduceIte, g0, g3, g4, g5, g6, g7, g8, List.length_map, hol, dec_lt (show out.length + j < out.length + acc.length by omega), wj]
      refine Nx_of (j + 1, ra, true) (by simp) ?_
      simp only [go_sem, Nat.reduceEqDiff, Nat.reduceAdd, Nat.reduceLT, Nat.reduceLeDiff, reduceIte, g0, g3, g4, g5, g6]
      exact ⟨trivial, trivial, trivial, trivial, trivial, trivial, trivial, hj2, by rw [← hkn]; simp, trivial⟩
theorem MergeR_ok (b : Bk) (h : NF b) (l1 : b.cs.length ≤ 1000) (l2 : b.rs.length ≤ 1000) (hs : ∀ c ∈ b.cs, c.st.length ≤ 1000 ∧ c.ti.length ≤ 1000) (more : List Rp) (hm : more.length < 1000) : RV ft 35 [encB b, encRs more] (.tup [encB (mergeM b more).1, I64 (mergeM b more).2]) := by
  refine RV_of ft35 rfl ?_
  simp only [c35, r35]
  have hC := CheckR_ok b h
  unfold mergeM
  by_cases h0 : chk b = 0
  case neg =>
    rw [if_neg h0]
    simp only [go_sem, Nat.reduceEqDiff, Nat.reduceAdd, Nat.reduceLT, Nat.reduceLeDiff, reduceIte, WB15, WVH_eq hC, true_and, ne0 h0]
    try rfl
  rw [h0] at hC
  rw [if_pos h0]
  have hb := chk_BV h0
  have hcl := hb.cl
  have hrl := hb.rl
  have z : ((0 : Int) != 0) = false := rfl
  have z81 : ((81 : Int) != 0) = true := rfl
  have hCy := Copy_ok b l1 l2 hs
  have hC2 := CheckR_ok ⟨b.tax, b.cs, more⟩ ⟨h.c, by show more.length < _; omega, h.s⟩
  rw [chk_with h0] at hC2
  have wB2 : ∀ v, writeCells (encB b) 2 [v] = some (.agg [I64 b.tax, encCs b.cs, v]) := fun v => rfl
  have eB : ∀ l : List Rp, AV.agg [I64 b.tax, encCs b.cs, encRs l] = encB ⟨b.tax, b.cs, l⟩ := fun l => rfl
  by_cases c0 : (rsOK b.cs more && !clsh [] more) = true
  case neg =>
    rw [if_neg c0] at hC2
    have e : (if rsOK b.cs more = true then (if clsh [] (b.rs ++ more) = true then (zB, (81 : Int)) else if 40 < (dst (b.rs ++ more)).length then (zB, 81) else (⟨b.tax, b.cs, dst (b.rs ++ more)⟩, 0)) else (zB, 81)) = (zB, (81 : Int)) := by
      by_cases c1 : rsOK b.cs more = true
      · rw [if_pos c1]
        have c2 : clsh [] more = true := by
          cases hq : clsh [] more
          · rw [c1, hq] at c0; exact absurd rfl c0
          · rfl
        obtain ⟨x, hx, y, hy, hxy⟩ := clsh_nil.1 c2
        rw [if_pos (clsh_nil.2 ⟨x, by simp [hx], y, by simp [hy], hxy⟩)]
      · rw [if_neg c1]
    rw [e]
    simp only [go_sem, Nat.reduceEqDiff, Nat.reduceAdd, Nat.reduceLT, Nat.reduceLeDiff, reduceIte, WB15, WVH_eq hC, true_and, z, WF22, WVH_eq hCy, wB2, eB, WVH_eq hC2, z81]
    try rfl
  rw [if_pos c0] at hC2
  rw [Bool.and_eq_true] at c0
  have c1 := c0.1
  rw [if_pos c1]
  have hml := rsOK_len c1
  have hi : ∀ r ∈ b.rs ++ more, 0 ≤ r.id ∧ r.id ≤ 99 := fun r hr => by
    rcases List.mem_append.1 hr with hr | hr
    · have := hb.rv r hr; exact ⟨this.i0, this.i1⟩
    · exact rsOK_id c1 r hr
  have hcd := chk_dist h0 c1 hi
  have hD := distinct_ok (b.rs ++ more) (by rw [List.length_append]; omega)
  have hC3 := CheckR_ok ⟨b.tax, b.cs, distM (b.rs ++ more)⟩ ⟨h.c, by
    show (dsG _ 100 0).length < _
    have : ∀ (k : Nat) (f : Int), (dsG (b.rs ++ more) k f).length ≤ k * 100 := by
      intro k
      induction k with
      | zero => intro f; exact Nat.le_refl _
      | succ k ih =>
        intro f
        show (dsC f (b.rs ++ more) ++ dsG (b.rs ++ more) k (f + 1)).length ≤ _
        rw [List.length_append]
        have h1 := ih (f + 1)
        have h2 := dsF_len f (b.rs ++ more) []
        rw [List.length_append, List.length_nil] at h2
        unfold dsC
        omega
    have := this 100 0
    omega, h.s⟩
  rw [hcd] at hC3
  have key : (if clsh [] (b.rs ++ more) = true then (zB, (81 : Int)) else if 40 < (dst (b.rs ++ more)).length then (zB, 81) else (⟨b.tax, b.cs, dst (b.rs ++ more)⟩, 0)) = if (clsh [] (b.rs ++ more) = true ∨ 40 < (distM (b.rs ++ more)).length) then (zB, 81) else (⟨b.tax, b.cs, distM (b.rs ++ more)⟩, 0) := by
    by_cases c2 : clsh [] (b.rs ++ more) = true
    · rw [if_pos c2, if_pos (.inl c2)]
    · have c3 : clsh [] (b.rs ++ more) = false := by simpa using c2
      rw [if_neg c2, distM_dst c3]
      by_cases c4 : 40 < (dst (b.rs ++ more)).length
      · rw [if_pos c4, if_pos (.inr c4)]
      · rw [if_neg c4, if_neg (fun h => h.elim c2 c4)]
  rw [key]
  clear key hcd hi
  generalize distM (b.rs ++ more) = D at hD hC3
  simp only [go_sem, Nat.reduceEqDiff, Nat.reduceAdd, Nat.reduceLT, Nat.reduceLeDiff, reduceIte, WB15, WVH_eq hC, true_and, z, WF22, WVH_eq hCy, wB2, eB, WVH_eq hC2]
  show @OptH _ (appendAt _ false (.sl [] .tight) (.sl (b.rs.map encR) .unk) 52 6 48) ⟨_⟩
  refine AppV.copy (T := 52) (ys := b.rs.map encR) (hdSz_map' encR 6 _ fun _ => rfl) (by rw [List.length_map]; unfold limit; omega) fun v1 toks1 hv1 _ _ => ?_
  simp only [go_sem, Nat.reduceEqDiff, Nat.reduceAdd, Nat.reduceLT, Nat.reduceLeDiff, reduceIte]
  show @OptH _ (appendAt _ false v1 (.sl (more.map encR) .unk) 52 6 48) ⟨_⟩
  refine hv1.appL (hdSz_map' encR 6 _ fun _ => rfl) (hdSz_map' encR 6 _ fun _ => rfl) (by rw [List.length_map, List.length_map]; unfold limit; omega) fun v2 toks2 hv2 => ?_
  rw [← List.map_append] at hv2
  obtain ⟨k2, rfl⟩ := hv2.sl
  have e1 : ∀ m, snap m 12 (.sl ((b.rs ++ more).map encR) k2) = encRs (b.rs ++ more) := fun m => snRsT m 9 _ k2
  have e2 : hot 12 (.sl ((b.rs ++ more).map encR) k2) = false := hotRsT 9 _ k2
  have wB3 : ∀ l v, writeCells (encB ⟨b.tax, b.cs, l⟩) 2 [v] = some (.agg [I64 b.tax, encCs b.cs, v]) := fun l v => rfl
  by_cases c5 : (clsh [] (b.rs ++ more) = true ∨ 40 < D.length)
  · rw [if_pos c5] at hC3 ⊢
    simp only [go_sem, Nat.reduceEqDiff, Nat.reduceAdd, Nat.reduceLT, Nat.reduceLeDiff, reduceIte, e1, e2, WB66, WVH_eq hD, true_and, wB2, wB3, eB, WB15, WVH_eq hC3, z81]
    try rfl
  · rw [if_neg c5] at hC3 ⊢
    simp only [go_sem, Nat.reduceEqDiff, Nat.reduceAdd, Nat.reduceLT, Nat.reduceLeDiff, reduceIte, e1, e2, WB66, WVH_eq hD, true_and, wB2, wB3, eB, WB15, WVH_eq hC3, z]
    try rfl
end Go.Ab.T
end

section
namespace Go.Ab.T
set_option maxRecDepth 8000
set_option maxHeartbeats 4000000
theorem dstG_len (L : List Rp) : ∀ (k : Nat) (f : Int), (dstG L k f).length ≤ k
  | 0, _ => Nat.le_refl _
  | k + 1, f => by
    unfold dstG
    rw [List.length_append]
    have := dstG_len L k (f + 1)
    split
    · simp only [List.length_nil]; omega
    · simp only [List.length_singleton]; omega
theorem mergeM_NF {b : Bk} (h : NF b) (more : List Rp) : NF (mergeM b more).1 := by
  have hz : NF zB := ⟨by decide, by decide, fun c hc => by cases hc⟩
  unfold mergeM
  split
  · split
    · split
      · exact hz
      · split
        · exact hz
        · refine ⟨h.c, ?_, h.s⟩
          have := dstG_len (b.rs ++ more) 100 0
          show (dstG _ 100 0).length < _
          omega
    · exact hz
  · exact hz
theorem ShareMerges_run (b : Bk) (more : List Rp) : RV ft 11 [encB b, encRs more] (.bool true) := by
  refine RV_of ft11 rfl ?_
  simp only [c11, r11]
  cases h1 : farM b
  case true => simp only [go_sem, Nat.reduceEqDiff, Nat.reduceAdd, Nat.reduceLT, Nat.reduceLeDiff, reduceIte, WB14, WVH_eq (Far_ok b), true_and, h1, WB16, WVH_eq works_ok]
  cases c1 : decide ((60 : Int) < (more.length : Int))
  case true => simp only [go_sem, Nat.reduceEqDiff, Nat.reduceAdd, Nat.reduceLT, Nat.reduceLeDiff, reduceIte, WB14, WVH_eq (Far_ok b), true_and, h1, c1, WB16, WVH_eq works_ok]
  have hF := farM_NF h1
  have hl : more.length ≤ 60 := by have := of_decide_eq_false c1; omega
  obtain ⟨l1, l2, l3⟩ := farM_le h1
  have hP := Merge_ok b hF l3 more (by omega)
  have hR := MergeR_ok b hF l1 l2 l3 more (by omega)
  have hS := same_ok (mergeM b more).1 (mergeM_NF hF more)
  simp only [go_sem, Nat.reduceEqDiff, Nat.reduceAdd, Nat.reduceLT, Nat.reduceLeDiff, reduceIte, WB14, WVH_eq (Far_ok b), true_and, h1, c1, WF22, WVH_eq (Copy_ok b l1 l2 l3)]
  show @OptH _ (appendAt _ false (.sl [] .tight) (.sl (more.map encR) .unk) 52 6 48) ⟨_⟩
  refine AppV.copy (T := 52) (ys := more.map encR) (hdSz_map' encR 6 _ fun _ => rfl) (by rw [List.length_map]; unfold limit; omega) fun v1 toks1 hv1 _ _ => ?_
  obtain ⟨k1, rfl⟩ := hv1.sl
  have e1 : ∀ m, snap m 12 (.sl (more.map encR) k1) = encRs more := fun m => snRsT m 9 more k1
  have e2 : hot 12 (.sl (more.map encR) k1) = false := hotRsT 9 more k1
  generalize mergeM b more = P at hP hR hS
  simp only [go_sem, Nat.reduceEqDiff, Nat.reduceAdd, Nat.reduceLT, Nat.reduceLeDiff, reduceIte, e1, e2, WB24, WVH_eq hP, WB35, WVH_eq hR, true_and, WB25, WVH_eq hS, WB16, WVH_eq works_ok]
end Go.Ab.T
end
