/-
  A part of the proofs over this seat.
  (The texts KsK27 KsK28 KsK29 KsK30 KsK31, one behind the other.)
-/
import Derived.Test.YtapkbaihdcabnaaQ5
import Derived.Test.YtapkbaihdcabnaaQ4
set_option linter.unusedSimpArgs false
set_option linter.unusedVariables false
set_option linter.unusedSectionVars false
section
namespace Go.Ab.T
set_option maxRecDepth 8000
set_option maxHeartbeats 4000000
/-- Reports in a block. -/
def Mx (bl : List Blk) (tk : List (Nat × Nat)) (id : Nat) (X : List Rp) : Mem := ⟨bl.set id (.live (X.map encR) 6), tk⟩
theorem Mx_blk {bl : List Blk} {tk : List (Nat × Nat)} {id : Nat} (h : id < bl.length) (X : List Rp) : (Mx bl tk id X).blks[id]? = some (.live (X.map encR) 6) := by
  unfold Mx; simp only; rw [List.getElem?_set_self h]
theorem Mx_idx {bl : List Blk} {tk : List (Nat × Nat)} {id : Nat} (h : id < bl.length) (X : List Rp) {off n i : Nat} (hi : i < n) : idxAt (Mx bl tk id X) (.ref id off n) (I64 (i : Int)) 6 = some (.ptr id (off + i) 0) := by
  rw [idxAt_ref, if_pos ⟨⟨by omega, by omega⟩, by rw [lsz_eq, Mx_blk h]; rfl⟩, Int.toNat_natCast]
theorem Mx_ld {bl : List Blk} {tk : List (Nat × Nat)} {id : Nat} (h : id < bl.length) {X : List Rp} {i : Nat} {x : Rp} (hi : X[i]? = some x) : loadAt (Mx bl tk id X) (.ptr id i 0) (some 6) = some (encR x) := by
  rw [loadAt_ptr, Mx_blk h]
  simp only [ldBlk_live, List.getElem?_map, hi, Option.map_some, ldEl_some]
  rfl
theorem Mx_st {bl : List Blk} {tk : List (Nat × Nat)} {id : Nat} (h : id < bl.length) {X : List Rp} {i : Nat} (hi : i < X.length) (y : Rp) : storeAt (Mx bl tk id X) (.ptr id i 0) (encR y) 6 = some (Mx bl tk id (X.set i y)) := by
  rw [storeAt_ptr, Mx_blk h]
  simp only [stBlk_live, List.getElem?_map, List.getElem?_eq_getElem hi, Option.map_some, stEl_some]
  rw [if_pos ⟨rfl, rfl⟩]
  show some (Mem.mk ((bl.set id (.live (X.map encR) 6)).set id (.live ((X.map encR).set i (encR y)) 6)) tk) = _
  unfold Mx
  rw [List.set_set, List.map_set]
theorem Mx_len {bl : List Blk} {tk : List (Nat × Nat)} {id : Nat} (h : id < bl.length) (X : List Rp) (off n : Nat) : lenAt (Mx bl tk id X) (.ref id off n) = some (I64 (n : Int)) := by
  rw [lenAt_ref, if_pos (by rw [lsz_eq, Mx_blk h]; rfl)]
theorem Mx_from {bl : List Blk} {tk : List (Nat × Nat)} {id : Nat} (h : id < bl.length) (X : List Rp) {n i : Nat} (hi : i < n) : sliceAt (Mx bl tk id X) (.ref id 0 n) (some (I64 (i : Int))) none 6 = some (.ref id i (n - i)) := by
  have hl : lsz (Mx bl tk id X) id = some 6 := by rw [lsz_eq, Mx_blk h]; rfl
  simp only [sliceAt, hl, if_true]
  have hb : bounds n (some (I64 (i : Int))) none = some (i, n) := by
    simp [bounds, asInt]; omega
  rw [hb, Option.map_some]
  dsimp only
  rw [if_neg (by omega), Nat.zero_add]
theorem Mx_to {m : Mem} {id : Nat} (hl : lsz m id = some 6) {n i : Nat} (hi : i ≤ n) : sliceAt m (.ref id 0 n) none (some (I64 (i : Int))) 6 = some (.ref id 0 i) := by
  simp only [sliceAt, hl, if_true]
  have hb : bounds n none (some (I64 (i : Int))) = some (0, i) := by
    simp [bounds, asInt]; omega
  rw [hb, Option.map_some]
  dsimp only
  rw [if_neg (by omega), Nat.zero_add, Nat.sub_zero]
theorem cmp_step {l : List Rp} {j : Nat} {p x : Rp} (hp : l[j]? = some p) (hx : l[j + 1]? = some x) : cmpF (l.take (j + 2)) = if eqR x p = true then cmpF (l.take (j + 1)) else cmpF (l.take (j + 1)) ++ [x] := by
  have h1 : (cmpF (l.take (j + 1))).getLast? = some p := by rw [take_snoc hp, cmpF_snoc, stp_last]
  rw [take_snoc hx, cmpF_snoc]
  conv => lhs; unfold stp
  rw [h1]
theorem Compact_run {bl : List Blk} {tk : List (Nat × Nat)} {id : Nat} (h : id < bl.length) (l : List Rp) (hn : l.length ≤ 10000) (K : AV → Mem → Prop)
    (hK : ∀ m' es, m'.blks[id]? = some (.live es 6) → es.take (cmpF l).length = (cmpF l).map encR → (cmpF l).length ≤ es.length → K (.ref id 0 (cmpF l).length) m') : WR ft (.f 80) [.ref id 0 l.length] (Mx bl tk id l) K := by
  rw [WR_f ft80 rfl]
  simp only [c80, r80]
  have hL := fun X off n => Mx_len (tk := tk) h X off n
  have hself : cmpF l = l → K (.ref id 0 l.length) (Mx bl tk id l) := fun e => by
    have := hK (Mx bl tk id l) (l.map encR) (Mx_blk h l) (by rw [e, ← List.length_map (f := encR), List.take_length]) (by rw [e, List.length_map]; exact Nat.le_refl _)
    rwa [e] at this
  cases c1 : decide ((l.length : Int) < 2)
  case true =>
    have h2 : l.length < 2 := by have := of_decide_eq_true c1; omega
    simp only [go_sem, Nat.reduceEqDiff, Nat.reduceAdd, Nat.reduceLT, Nat.reduceLeDiff, reduceIte, hL, c1]
    refine hself ?_
    match l, h2 with
    | [], _ => rfl
    | [x], _ => rfl
  have h2 : 2 ≤ l.length := by have := of_decide_eq_false c1; omega
  simp only [go_sem, Nat.reduceEqDiff, Nat.reduceAdd, Nat.reduceLT, Nat.reduceLeDiff, reduceIte, hL, c1]
  refine WL_inv (α := Nat) (fun q e mm => e 0 = .ref id 0 l.length ∧ e 3 = I64 q ∧ 1 ≤ q ∧ q ≤ l.length ∧ cmpF (l.take q) = l.take q ∧ mm = Mx bl tk id l) (fun q => l.length - q) 1 ?_ ?_
  · simp only [go_sem, Nat.reduceEqDiff, Nat.reduceAdd, Nat.reduceLT, Nat.reduceLeDiff, reduceIte]
    refine ⟨trivial, rfl, by first | trivial | omega, by first | trivial | omega, ?_, trivial⟩
    match l, h2 with
    | x :: l, _ => rfl
  rintro q e m ⟨g0, g3, hq1, hqn, hc, rfl⟩
  obtain ⟨i, rfl⟩ : ∃ i, q = i + 1 := ⟨q - 1, by omega⟩
  by_cases hlt : i + 1 < l.length
  case neg =>
    have e1 : i + 1 = l.length := by omega
    rw [e1, List.take_length] at hc
    simp only [go_sem, Nat.reduceEqDiff, Nat.reduceAdd, Nat.reduceLT, Nat.reduceLeDiff, reduceIte, g0, g3, hL, dec_ge (show l.length ≤ i + 1 by omega)]
    exact hself hc
  have hx := List.getElem?_eq_getElem hlt
  have hp := List.getElem?_eq_getElem (show i < l.length by omega)
  have hs := cmp_step hp hx
  have w1 : IntKind.i64.wrap (((i + 1 : Nat) : Int) - 1) = (i : Int) := by rw [wrap_i64 _ (by omega) (by omega)]; omega
  have i1 := Mx_idx (tk := tk) h l (off := 0) hlt
  have i2 := Mx_idx (tk := tk) h l (off := 0) (show i < l.length by omega)
  rw [Nat.zero_add] at i1 i2
  have d1 := Mx_ld (tk := tk) h hx
  have d2 := Mx_ld (tk := tk) h hp
  generalize l[i + 1] = x at hx hs d1
  generalize l[i] = p at hp hs d2
  cases e1 : eqR x p
  case false =>
    rw [e1, if_neg (by decide), hc, ← take_snoc hx] at hs
    simp only [go_sem, Nat.reduceEqDiff, Nat.reduceAdd, Nat.reduceLT, Nat.reduceLeDiff, reduceIte, g0, g3, hL, dec_lt hlt, i1, i2, d1, d2, w1, e1, Bool.false_eq_true, if_false, wrap_n1 (i + 1) (by omega)]
    refine Nx_of (i + 2) (by omega) ?_
    simp only [go_sem, Nat.reduceEqDiff, Nat.reduceAdd, Nat.reduceLT, Nat.reduceLeDiff, reduceIte, g0]
    exact ⟨trivial, trivial, by first | trivial | omega, by first | trivial | omega, hs, trivial⟩
  rw [e1, if_pos rfl, hc] at hs
  have f1 := Mx_from (tk := tk) h l hlt
  simp only [go_sem, Nat.reduceEqDiff, Nat.reduceAdd, Nat.reduceLT, Nat.reduceLeDiff, reduceIte, g0, g3, hL, dec_lt hlt, i1, i2, d1, d2, w1, e1, f1, Bool.false_eq_true, if_false]
  refine WL_inv (α := Nat × Nat × List Rp) (fun q e mm => e 0 = .ref id 0 l.length ∧ e 3 = I64 q.2.1 ∧ e 4 = .ref id (i + 1) (l.length - (i + 1)) ∧ e 5 = I64 q.1 ∧ 1 ≤ q.1 ∧ q.1 ≤ l.length - (i + 1) ∧ q.2.1 ≤ i + q.1 ∧ q.2.2.length = l.length ∧ q.2.2.take q.2.1 = cmpF (l.take (i + 1 + q.1)) ∧ (∀ j, i + q.1 ≤ j → q.2.2[j]? = l[j]?) ∧ mm = Mx bl tk id q.2.2) (fun q => l.length - (i + 1) - q.1) (1, i + 1, l) ?_ ?_
  · simp only [go_sem, Nat.reduceEqDiff, Nat.reduceAdd, Nat.reduceLT, Nat.reduceLeDiff, reduceIte, g0, g3]
    exact ⟨trivial, trivial, trivial, rfl, by first | trivial | omega, by first | trivial | omega, by first | trivial | omega, trivial, hs.symm, fun j _ => trivial, trivial⟩
  rintro ⟨k, a, X⟩ e m ⟨g0, g3, g4, g5, hk1, hkn, ha, hXl, hXt, hXr, rfl⟩
  dsimp only at g3 g5 hk1 hkn ha hXl hXt hXr
  obtain ⟨k, rfl⟩ : ∃ j, k = j + 1 := ⟨k - 1, by omega⟩
  by_cases hkl : k + 1 < l.length - (i + 1)
  · have hy : l[i + 1 + (k + 1)]? = some (l[i + 1 + (k + 1)]'(by omega)) := List.getElem?_eq_getElem (by omega)
    have hz : l[i + 1 + k]? = some (l[i + 1 + k]'(by omega)) := List.getElem?_eq_getElem (by omega)
    have hs2 := cmp_step (j := i + 1 + k) hz (by rw [← hy]; rfl)
    have j1 := Mx_idx (tk := tk) h X (off := i + 1) hkl
    have j2 := Mx_idx (tk := tk) h X (off := i + 1) (show k < l.length - (i + 1) by omega)
    have t1 := Mx_ld (tk := tk) h (X := X) (i := i + 1 + (k + 1)) (by rw [hXr _ (by omega)]; exact hy)
    have t2 := Mx_ld (tk := tk) h (X := X) (i := i + 1 + k) (by rw [hXr _ (by omega)]; exact hz)
    have w2 : IntKind.i64.wrap (((k + 1 : Nat) : Int) - 1) = (k : Int) := by rw [wrap_i64 _ (by omega) (by omega)]; omega
    generalize l[i + 1 + (k + 1)]'(by omega) = y at hy hs2 t1
    generalize l[i + 1 + k]'(by omega) = z at hz hs2 t2
    have ea : i + 1 + (k + 1) = i + 1 + k + 1 := by omega
    rw [ea] at hXt
    cases e2 : eqR y z
    · rw [e2, if_neg (by decide), ← hXt] at hs2
      have s1 := Mx_idx (tk := tk) h X (off := 0) (show a < l.length by omega)
      rw [Nat.zero_add] at s1
      have s2 := Mx_st (tk := tk) h (X := X) (i := a) (by omega) y
      simp only [go_sem, Nat.reduceEqDiff, Nat.reduceAdd, Nat.reduceLT, Nat.reduceLeDiff, reduceIte, g0, g3, g4, g5, hL, dec_lt hkl, j1, j2, t1, t2, w2, e2, Bool.false_eq_true, if_false, s1, s2, wrap_n1 a (by omega), wrap_n1 (k + 1) (by omega)]
      refine Nx_of (k + 2, a + 1, X.set a y) (by dsimp only; omega) ?_
      simp only [go_sem, Nat.reduceEqDiff, Nat.reduceAdd, Nat.reduceLT, Nat.reduceLeDiff, reduceIte, g0, g4]
      refine ⟨trivial, trivial, trivial, trivial, by first | trivial | omega, by first | trivial | omega, by first | trivial | omega, by simp [hXl], ?_, fun j hj => ?_, trivial⟩
      · rw [show i + 1 + (k + 2) = i + 1 + k + 2 by omega, hs2]
        have hg : (X.set a y)[a]? = some y := List.getElem?_set_self (by omega)
        rw [take_snoc hg, List.take_set, List.set_eq_of_length_le (by rw [List.length_take]; exact Nat.min_le_left _ _)]
      · rw [List.getElem?_set_ne (by omega)]; exact hXr j (by omega)
    · rw [e2, if_pos rfl, ← hXt] at hs2
      simp only [go_sem, Nat.reduceEqDiff, Nat.reduceAdd, Nat.reduceLT, Nat.reduceLeDiff, reduceIte, g0, g3, g4, g5, hL, dec_lt hkl, j1, j2, t1, t2, w2, e2, Bool.false_eq_true, if_false, wrap_n1 (k + 1) (by omega)]
      refine Nx_of (k + 2, a, X) (by dsimp only; omega) ?_
      simp only [go_sem, Nat.reduceEqDiff, Nat.reduceAdd, Nat.reduceLT, Nat.reduceLeDiff, reduceIte, g0, g3, g4]
      exact ⟨trivial, trivial, trivial, trivial, by first | trivial | omega, by first | trivial | omega, by first | trivial | omega, hXl, by rw [show i + 1 + (k + 2) = i + 1 + k + 2 by first | trivial | omega, hs2], fun j hj => hXr j (by first | trivial | omega), trivial⟩
  · have ea : i + 1 + (k + 1) = l.length := by omega
    rw [ea, List.take_length] at hXt
    have hal : (cmpF l).length = a := by rw [← hXt, List.length_take]; omega
    have f2 := Mx_from (tk := tk) h X (show a < l.length by omega)
    obtain ⟨M, hM, hMb⟩ : ∃ M, clearAt (Mx bl tk id X) (.ref id a (l.length - a)) zRv 6 = some M ∧ ∃ es, M.blks[id]? = some (.live es 6) ∧ es.take a = (cmpF l).map encR ∧ a ≤ es.length := by
      have hlen : (X.map encR).length = l.length := by rw [List.length_map, hXl]
      refine ⟨⟨(Mx bl tk id X).blks.set id (.live ((X.map encR).take a ++ List.replicate (l.length - a) zRv ++ (X.map encR).drop (a + (l.length - a))) 6), tk⟩, ?_, (X.map encR).take a ++ List.replicate (l.length - a) zRv ++ (X.map encR).drop (a + (l.length - a)), ?_, ?_, ?_⟩
      · simp only [clearAt, Mx_blk h]
        rw [if_pos ⟨⟨⟨by rw [hlen]; omega, by omega⟩, trivial⟩, rfl, rfl⟩]
        rfl
      · simp only
        rw [List.getElem?_set_self]
        unfold Mx
        simpa using h
      · rw [List.append_assoc, List.take_append_of_le_length (by rw [List.length_take, hlen]; omega), List.take_take, Nat.min_self, ← List.map_take, hXt]
      · rw [List.length_append, List.length_append, List.length_take, hlen]; omega
    obtain ⟨es, hb1, hb2, hb3⟩ := hMb
    have f3 := Mx_to (m := M) (id := id) (by rw [lsz_eq, hb1]; rfl) (show a ≤ l.length by omega)
    unfold zRv at hM
    simp only [go_sem, Nat.reduceEqDiff, Nat.reduceAdd, Nat.reduceLT, Nat.reduceLeDiff, reduceIte, g0, g3, g4, g5, hL, dec_ge (show l.length - (i + 1) ≤ k + 1 by omega), f2, hM, f3]
    rw [← hal]
    exact hK M es hb1 (by rw [hal]; exact hb2) (by rw [hal]; exact hb3)
end Go.Ab.T
end

section
namespace Go.Ab.T
set_option maxRecDepth 8000
set_option maxHeartbeats 4000000
theorem eachOnce_ok (l1 l2 : List Rp) (h1 : l1.length ≤ 1000) (h2 : l2.length ≤ 1000) : ∃ S : List Rp, S.Perm (l1 ++ l2) ∧ S.Pairwise (fun a b => a.id ≤ b.id) ∧ RV ft 50 [encRs l1, encRs l2] (encRs (cmpF S)) := by
  have h : WR ft (.f 50) [encRs l1, encRs l2] .nil fun v m => ∃ S : List Rp, S.Perm (l1 ++ l2) ∧ S.Pairwise (fun a b => a.id ≤ b.id) ∧ snap m dep v = encRs (cmpF S) := by
    rw [WR_f ft50 rfl]
    simp only [c50, r50]
    have sn2 : ∀ m : Mem, snap m 12 (.sl [encRs l1, encRs l2] .tight) = .sl [encRs l1, encRs l2] .unk := fun m => by
      show AV.sl [snap m 11 (encRs l1), snap m 11 (encRs l2)] .unk = _
      rw [show snap m 11 (encRs l1) = encRs l1 from snRs m 8 l1, show snap m 11 (encRs l2) = encRs l2 from snRs m 8 l2]
    have ht2 : hot 12 (.sl [encRs l1, encRs l2] .tight) = false := by
      show (hot 11 (encRs l1) || (hot 11 (encRs l2) || false)) = false
      rw [show hot 11 (encRs l1) = false from hotRs 8 l1, show hot 11 (encRs l2) = false from hotRs 8 l2]; rfl
    simp only [go_sem, Nat.reduceEqDiff, Nat.reduceAdd, Nat.reduceLT, Nat.reduceLeDiff, reduceIte, WB76, sn2]
    refine WR_mono (Concat_run l1 l2 h1 h2) fun v m h => ?_
    rcases h with ⟨he, rfl, rfl⟩ | ⟨hne, rfl, rfl⟩
    · simp only [go_sem, Nat.reduceEqDiff, Nat.reduceAdd, Nat.reduceLT, Nat.reduceLeDiff, reduceIte, ht2, WB77]
      refine ⟨trivial, ?_⟩
      show WR ft (.f 77) [.sl [] .tight, .fn 78 [] []] ⟨[], []⟩ _
      refine Srt.sortFunc_nil rSort rPdq _ _ ?_
      simp only [go_sem, Nat.reduceEqDiff, Nat.reduceAdd, Nat.reduceLT, Nat.reduceLeDiff, reduceIte, WB80]
      show WR ft (.f 80) [.sl [] .tight] ⟨[], []⟩ _
      rw [WR_f ft80 rfl]
      simp only [c80, r80]
      simp only [go_sem, Nat.reduceEqDiff, Nat.reduceAdd, Nat.reduceLT, Nat.reduceLeDiff, reduceIte, List.length_nil, show decide (((0 : Nat) : Int) < 2) = true from rfl]
      exact ⟨[], by rw [he], .nil, rfl⟩
    · obtain ⟨L, hL⟩ : ∃ L, L = l1 ++ l2 := ⟨_, rfl⟩
      have hll : L.length ≤ 2000 := by rw [hL, List.length_append]; omega
      rw [← hL]
      have hsh : (L.map encR).map (Ab.shift 0 0 12) = L.map encR := by
        rw [List.map_map, show Ab.shift 0 0 12 ∘ encR = encR from funext fun c => rfl]
      simp only [go_sem, Nat.reduceEqDiff, Nat.reduceAdd, Nat.reduceLT, Nat.reduceLeDiff, reduceIte, ht2, WB77, joinMem]
      refine ⟨trivial, ?_⟩
      show WR ft (.f 77) [.ref (0 + 0) 0 L.length, .fn 78 [] []] ⟨[.live ((L.map encR).map (Ab.shift 0 0 12)) 6], []⟩ _
      rw [hsh]
      refine sortR_run (id := 0) (l := L) rfl (by omega) _ fun l' m' p1 p2 p3 p4 p5 p6 => ?_
      obtain ⟨bl, tk⟩ := m'
      dsimp only at p3 p5
      have hbl : 0 < bl.length := by simp only [List.length_cons, List.length_nil] at p5; omega
      have hM : (⟨bl, tk⟩ : Mem) = Mx bl tk 0 l' := by
        unfold Mx
        congr 1
        refine List.ext_getElem? fun i => ?_
        by_cases hi : 0 = i
        · subst hi; rw [List.getElem?_set_self hbl, p3]
        · rw [List.getElem?_set_ne hi]
      simp only [go_sem, Nat.reduceEqDiff, Nat.reduceAdd, Nat.reduceLT, Nat.reduceLeDiff, reduceIte, WB80]
      show WR ft (.f 80) [.ref (0 + 0) 0 L.length] ⟨bl, tk⟩ _
      rw [hM, ← p1.length_eq]
      refine Compact_run (id := 0) hbl l' (by rw [p1.length_eq]; omega) _ fun m2 es q1 q2 q3 => ?_
      simp only [go_sem, Nat.reduceEqDiff, Nat.reduceAdd, Nat.reduceLT, Nat.reduceLeDiff, reduceIte]
      refine ⟨l', p1, p2, ?_⟩
      have e : snap m2 12 (.ref 0 0 (cmpF l').length) = encRs (cmpF l') := by
        simp only [snap_ref, elems_ref, q1, elBlk_live]
        rw [if_pos (by omega), List.drop_zero, q2]
        show AV.sl (((cmpF l').map encR).map (snap m2 11)) .unk = _
        rw [List.map_map, show snap m2 11 ∘ encR = encR from funext fun c => snR m2 9 c]; rfl
      exact e
  obtain ⟨n, p, h1, S, h2, h3, h4⟩ := h
  exact ⟨S, h2, h3, n, by simp only [callV, h1, Option.map_some, h4]⟩
theorem rsOK_len {cs : List Ct} {l : List Rp} (h : rsOK cs l = true) : l.length ≤ 40 := by
  unfold rsOK at h
  simp only [Bool.and_eq_true, decide_eq_true_eq] at h
  omega
theorem rsOK_id {cs : List Ct} {l : List Rp} (h : rsOK cs l = true) : ∀ r ∈ l, 0 ≤ r.id ∧ r.id ≤ 99 := fun r hr => by
  unfold rsOK at h
  simp only [Bool.and_eq_true, List.all_eq_true] at h
  have := rpOK_RV (h.2 r hr)
  exact ⟨this.i0, this.i1⟩
theorem Merge_ok (b : Bk) (h : NF b) (hs : ∀ c ∈ b.cs, c.st.length ≤ 1000 ∧ c.ti.length ≤ 1000) (more : List Rp) (hm : more.length < 1073741824) : RV ft 24 [encB b, encRs more] (.tup [encB (mergeM b more).1, I64 (mergeM b more).2]) := by
  refine RV_of ft24 rfl ?_
  simp only [c24, r24]
  have hC := Check_ok b h
  unfold mergeM
  by_cases h0 : chk b = 0
  case neg =>
    rw [if_neg h0]
    simp only [go_sem, Nat.reduceEqDiff, Nat.reduceAdd, Nat.reduceLT, Nat.reduceLeDiff, reduceIte, WB31, WVH_eq hC, true_and, ne0 h0]
    try rfl
  rw [h0] at hC
  rw [if_pos h0]
  have hb := chk_BV h0
  have hcl := hb.cl
  have hrl := hb.rl
  have z : ((0 : Int) != 0) = false := rfl
  have hV := validReports_ok b more h.c hm
  cases c1 : rsOK b.cs more
  case false =>
    rw [c1] at hV
    simp only [go_sem, Nat.reduceEqDiff, Nat.reduceAdd, Nat.reduceLT, Nat.reduceLeDiff, reduceIte, WB31, WVH_eq hC, true_and, z, WB49, WVH_eq hV]
    try rfl
  rw [c1] at hV
  rw [if_pos rfl]
  have hml := rsOK_len c1
  obtain ⟨S, s1, s2, hE⟩ := eachOnce_ok b.rs more (by omega) (by omega)
  have hi : ∀ r ∈ b.rs ++ more, 0 ≤ r.id ∧ r.id ≤ 99 := fun r hr => by
    rcases List.mem_append.1 hr with hr | hr
    · have := hb.rv r hr; exact ⟨this.i0, this.i1⟩
    · exact rsOK_id c1 r hr
  have hcc := cmpF_clsh s1
  have hK := clash_ok (cmpF S) (by
    have : ∀ (l acc : List Rp), (cmpG acc l).length ≤ acc.length + l.length := by
      intro l
      induction l with
      | nil => intro acc; exact Nat.le_refl _
      | cons x l ih =>
        intro acc
        rw [cmpG_cons]
        have h1 := ih (stp acc x)
        have h2 : (stp acc x).length ≤ acc.length + 1 := by
          unfold stp
          split
          · split
            · omega
            · simp
          · simp
        rw [List.length_cons]; omega
    have h1 := this S []
    have h2 := s1.length_eq
    rw [List.length_append] at h2
    show (cmpG [] S).length < _
    rw [List.length_nil] at h1
    omega)
  rw [hcc] at hK
  have hCp := copyContracts_ok b.cs (by omega) hs
  cases c2 : clsh [] (b.rs ++ more)
  case true =>
    rw [c2] at hK
    rw [if_pos rfl]
    cases c3 : decide ((40 : Int) < ((cmpF S).length : Int))
    all_goals
      simp only [go_sem, Nat.reduceEqDiff, Nat.reduceAdd, Nat.reduceLT, Nat.reduceLeDiff, reduceIte, WB31, WVH_eq hC, true_and, z, WB49, WVH_eq hV, WB50, WVH_eq hE, c3, WB51, WVH_eq hK]
      try rfl
  rw [c2] at hK
  rw [if_neg (by decide)]
  have hd := cmpF_dst s1 s2 c2 hi
  rw [hd] at hE hK
  by_cases h40 : 40 < (dst (b.rs ++ more)).length
  · have c3 : decide ((40 : Int) < ((dst (b.rs ++ more)).length : Int)) = true := decide_eq_true (by omega)
    rw [if_pos h40]
    simp only [go_sem, Nat.reduceEqDiff, Nat.reduceAdd, Nat.reduceLT, Nat.reduceLeDiff, reduceIte, WB31, WVH_eq hC, true_and, z, WB49, WVH_eq hV, WB50, WVH_eq hE, c3]
    try rfl
  · have c3 : decide ((40 : Int) < ((dst (b.rs ++ more)).length : Int)) = false := decide_eq_false (by omega)
    rw [if_neg h40]
    simp only [go_sem, Nat.reduceEqDiff, Nat.reduceAdd, Nat.reduceLT, Nat.reduceLeDiff, reduceIte, WB31, WVH_eq hC, true_and, z, WB49, WVH_eq hV, WB50, WVH_eq hE, c3, WB51, WVH_eq hK, WB52, WVH_eq hCp]
    try rfl
end Go.Ab.T
end



section
namespace Go.Ab.T
set_option maxRecDepth 8000
set_option maxHeartbeats 4000000
theorem Rs_to (m : Mem) (l : List Rp) (k : Nat) (hk : k ≤ l.length) : sliceAt m (encRs l) none (some (I64 (k : Int))) 6 = some (encRs (l.take k)) := by
  unfold encRs
  rw [sliceAt_sl, if_pos (hdSz_map' encR 6 l fun _ => rfl), bounds_ns, List.length_map, if_pos ⟨Int.le_refl _, by omega, by omega⟩]
  simp [List.map_take, sltk_unk]
theorem Rs_from (m : Mem) (l : List Rp) (k : Nat) (hk : k ≤ l.length) : sliceAt m (encRs l) (some (I64 (k : Int))) none 6 = some (encRs (l.drop k)) := by
  unfold encRs
  have hb : bounds (l.map encR).length (some (I64 (k : Int))) none = some (k, (l.map encR).length) := by
    simp [bounds, asInt]; omega
  rw [sliceAt_sl, if_pos (hdSz_map' encR 6 l fun _ => rfl), hb]
  simp [List.map_drop, sltk_unk, List.take_of_length_le]
structure Tn where
  by' : Int
  cut : Int
def encN (t : Tn) : AV := .agg [I64 t.by', I64 t.cut]
theorem NCells (t : Tn) : (encN t).cells = [I64 t.by', I64 t.cut] := rfl
attribute [go_sem] NCells
theorem snO (m : Mem) (q : Nat) (tax : Int) (C : List Ct) (R : List Rp) (t1 t2 : Tk) : snap m (q + 6) (.agg [I64 tax, .sl (C.map encC) t1, .sl (R.map encR) t2]) = encB ⟨tax, C, R⟩ := by
  show AV.agg [I64 tax, .sl ((C.map encC).map (snap m (q + 4))) .unk, .sl ((R.map encR).map (snap m (q + 4))) .unk] = _
  rw [List.map_map, List.map_map, show snap m (q + 4) ∘ encC = encC from funext fun x => snC m q x, show snap m (q + 4) ∘ encR = encR from funext fun t => snR m (q + 2) t]; rfl
theorem hotO (q : Nat) (tax : Int) (C : List Ct) (R : List Rp) (t1 t2 : Tk) : hot (q + 6) (.agg [I64 tax, .sl (C.map encC) t1, .sl (R.map encR) t2]) = false := by
  have h1 : (C.map encC).any (hot (q + 4)) = false := by rw [List.any_map, List.any_eq_false]; intro y _; simp only [Function.comp]; rw [hotC q y]; decide
  have h2 : (R.map encR).any (hot (q + 4)) = false := by rw [List.any_map, List.any_eq_false]; intro y _; simp only [Function.comp]; rw [show hot (q + 4) (encR y) = false from hotR (q + 2) y]; decide
  show (false || ((C.map encC).any (hot (q + 4)) || ((R.map encR).any (hot (q + 4)) || false))) = false
  rw [h1, h2]; rfl
theorem ShareOrder_run (b : Bk) (x : Ak) (t : Tn) : RV ft 5 [encB b, encX x, encN t] (.bool true) := by
  refine RV_of ft5 rfl ?_
  simp only [c5, r5]
  have hV := valid_ok b x.f x.w x.s
  cases hv : validM b x.f x.w
  case false =>
    rw [hv] at hV
    simp only [go_sem, Nat.reduceEqDiff, Nat.reduceAdd, Nat.reduceLT, Nat.reduceLeDiff, reduceIte, WB20, WVH_eq hV, true_and, WB16, WVH_eq works_ok]
  rw [hv] at hV
  obtain ⟨h1, h0, c, hs, i0, i1⟩ := validM_iff hv
  have hF := farM_NF h1
  obtain ⟨l1, l2, l3⟩ := farM_le h1
  have hb := chk_BV h0
  have hc := hb.cv c (findC_mem hs).1
  have a0 := hc.a0
  have a2 := hc.a2
  have hcl := hb.cl
  cases c1 : decide ((20 : Int) < (b.rs.length : Int))
  case true => simp only [go_sem, Nat.reduceEqDiff, Nat.reduceAdd, Nat.reduceLT, Nat.reduceLeDiff, reduceIte, WB20, WVH_eq hV, true_and, c1, WB16, WVH_eq works_ok]
  cases c2 : decide (t.by' < 0)
  case true => simp only [go_sem, Nat.reduceEqDiff, Nat.reduceAdd, Nat.reduceLT, Nat.reduceLeDiff, reduceIte, WB20, WVH_eq hV, true_and, c1, c2, WB16, WVH_eq works_ok]
  cases c3 : decide (100 < t.by')
  case true => simp only [go_sem, Nat.reduceEqDiff, Nat.reduceAdd, Nat.reduceLT, Nat.reduceLeDiff, reduceIte, WB20, WVH_eq hV, true_and, c1, c2, c3, WB16, WVH_eq works_ok]
  cases c4 : decide (t.cut < 0)
  case true => simp only [go_sem, Nat.reduceEqDiff, Nat.reduceAdd, Nat.reduceLT, Nat.reduceLeDiff, reduceIte, WB20, WVH_eq hV, true_and, c1, c2, c3, c4, WB16, WVH_eq works_ok]
  cases c5 : decide ((b.rs.length : Int) < t.cut)
  case true => simp only [go_sem, Nat.reduceEqDiff, Nat.reduceAdd, Nat.reduceLT, Nat.reduceLeDiff, reduceIte, WB20, WVH_eq hV, true_and, c1, c2, c3, c4, c5, WB16, WVH_eq works_ok]
  have hl : b.rs.length ≤ 20 := by have := of_decide_eq_false c1; omega
  obtain ⟨a, ha⟩ : ∃ a : Nat, t.by' = a := ⟨t.by'.toNat, by have := of_decide_eq_false c2; omega⟩
  obtain ⟨u, hu⟩ : ∃ u : Nat, t.cut = u := ⟨t.cut.toNat, by have := of_decide_eq_false c4; omega⟩
  have ha1 : a ≤ 100 := by have := of_decide_eq_false c3; omega
  have hu1 : u ≤ b.rs.length := by have := of_decide_eq_false c5; omega
  have hN : encN t = .agg [I64 (a : Int), I64 (u : Int)] := by unfold encN; rw [ha, hu]
  have hCy := Copy_ok b l1 l2 l3
  have wB2 : ∀ v, writeCells (encB b) 2 [v] = some (.agg [I64 b.tax, encCs b.cs, v]) := fun v => rfl
  simp only [go_sem, Nat.reduceEqDiff, Nat.reduceAdd, Nat.reduceLT, Nat.reduceLeDiff, reduceIte, WB20, WVH_eq hV, true_and, c1, c2, c3, c4, c5, WF22, WVH_eq hCy, wB2]
  rw [hN]
  refine WL_inv (α := Nat) (fun q e mm => e 3 = .ptr 0 0 0 ∧ e 4 = .ptr 1 0 0 ∧ e 5 = .ptr 2 0 0 ∧ e 7 = .ptr 3 0 0 ∧ e 8 = I64 q ∧ q ≤ b.rs.length ∧ ∃ V2 tk, mm = ⟨[.live [encB b] 3, .live [encX x] 3, .live [.agg [I64 (a : Int), I64 (u : Int)]] 2, .live [.agg [I64 b.tax, .sl [] .tight, V2]] 3], tk⟩ ∧ AppV 52 ((itl ((rot (a % b.rs.length) b.rs).take q) (b.rs.take q)).map encR) V2 tk) (fun q => b.rs.length - q) 0 ?_ ?_
  · simp only [go_sem, Nat.reduceEqDiff, Nat.reduceAdd, Nat.reduceLT, Nat.reduceLeDiff, reduceIte, hN]
    exact ⟨trivial, trivial, trivial, trivial, rfl, by omega, _, _, rfl, .inl ⟨rfl, rfl⟩⟩
  rintro q e m ⟨g3, g4, g5, g7, g8, hq, V2, tk, rfl, hA⟩
  obtain ⟨t2, rfl⟩ := hA.sl
  by_cases hlt : q < b.rs.length
  · have hk : b.rs[q]? = some (b.rs[q]) := List.getElem?_eq_getElem hlt
    have hj : (q + a) % b.rs.length < b.rs.length := Nat.mod_lt _ (by omega)
    have hk2 : b.rs[(q + a) % b.rs.length]? = some (b.rs[(q + a) % b.rs.length]) := List.getElem?_eq_getElem hj
    have hrot := (rot_get (by' := a) hlt).trans hk2
    generalize b.rs[q] = y at hk
    generalize b.rs[(q + a) % b.rs.length] = z at hk2 hrot
    have w1 : IntKind.i64.wrap ((q : Int) + (a : Int)) = ((q + a : Nat) : Int) := by rw [wrap_i64 _ (by omega) (by omega)]; omega
    have kz : decide ((b.rs.length : Int) = 0) = false := decide_eq_false (by omega)
    have w2 : Int.tmod ((q + a : Nat) : Int) (b.rs.length : Int) = (((q + a) % b.rs.length : Nat) : Int) := by rw [Int.tmod_eq_emod_of_nonneg (by omega)]; rfl
    have w3 : IntKind.i64.wrap (((q + a) % b.rs.length : Nat) : Int) = (((q + a) % b.rs.length : Nat) : Int) := wrap_i64 _ (by omega) (by omega)
    simp only [go_sem, Nat.reduceEqDiff, Nat.reduceAdd, Nat.reduceLT, Nat.reduceLeDiff, reduceIte, g3, g4, g5, g7, g8, dec_lt hlt, w1, kz, w2, w3, Rs_idx hk, Rs_idx hk2]
    have hxs : ((rot (a % b.rs.length) b.rs).take q).length = (b.rs.take q).length := by rw [List.length_take, List.length_take, rot_len]
    have hin := itl_snoc z y _ _ hxs
    rw [← take_snoc hk, ← take_snoc hrot] at hin
    have hle : (itl ((rot (a % b.rs.length) b.rs).take q) (b.rs.take q)).length ≤ 40 := by rw [itl_len _ _ hxs, List.length_take, rot_len]; omega
    refine hA.appL (ys := [encR z, encR y]) (hdSz_map' encR 6 _ fun _ => rfl) rfl (by rw [List.length_map]; simp only [List.length_cons, List.length_nil]; unfold limit; omega) fun v' tk' hv => ?_
    have em : (itl ((rot (a % b.rs.length) b.rs).take q) (b.rs.take q)).map encR ++ [encR z, encR y] = (itl ((rot (a % b.rs.length) b.rs).take (q + 1)) (b.rs.take (q + 1))).map encR := by rw [hin, List.map_append]; rfl
    rw [em] at hv
    obtain ⟨t2', rfl⟩ := hv.sl
    simp only [go_sem, Nat.reduceEqDiff, Nat.reduceAdd, Nat.reduceLT, Nat.reduceLeDiff, reduceIte, g3, g4, g5, g7, g8, wrap_n1 q (by omega)]
    refine Nx_of (q + 1) (by omega) ?_
    simp only [go_sem, Nat.reduceEqDiff, Nat.reduceAdd, Nat.reduceLT, Nat.reduceLeDiff, reduceIte, g3, g4, g5, g7]
    exact ⟨trivial, trivial, trivial, trivial, trivial, by omega, _, _, rfl, hv⟩
  have eq1 : q = b.rs.length := by omega
  have hR1 : itl ((rot (a % b.rs.length) b.rs).take q) (b.rs.take q) = itl (rot (a % b.rs.length) b.rs) b.rs := by
    rw [eq1, List.take_length, List.take_of_length_le (by rw [rot_len]; exact Nat.le_refl _)]
  rw [hR1] at hA ⊢
  obtain ⟨R, hR⟩ : ∃ R, R = itl (rot (a % b.rs.length) b.rs) b.rs := ⟨_, rfl⟩
  have hRm : ∀ x, x ∈ R ↔ x ∈ b.rs := fun x => by
    rw [hR, itl_mem x _ _ (rot_len _ _), (rot_perm _ _).mem_iff]; exact or_self_iff
  have hRl : R.length ≤ 40 := by rw [hR, itl_len _ _ (rot_len _ _), rot_len]; omega
  rw [← hR] at hA ⊢
  clear hR1 hR
  obtain ⟨V9, g9⟩ : ∃ v : AV, v = .sl (R.map encR) t2 := ⟨_, rfl⟩
  simp only [go_sem, Nat.reduceEqDiff, Nat.reduceAdd, Nat.reduceLT, Nat.reduceLeDiff, reduceIte, g3, g4, g5, g7, g8, dec_ge (show b.rs.length ≤ q by omega)]
  refine WL_inv (α := Nat) (fun q e mm => e 3 = .ptr 0 0 0 ∧ e 4 = .ptr 1 0 0 ∧ e 5 = .ptr 2 0 0 ∧ e 7 = .ptr 3 0 0 ∧ e 9 = I64 q ∧ q ≤ b.cs.length ∧ ∃ V1 tk, mm = ⟨[.live [encB b] 3, .live [encX x] 3, .live [.agg [I64 (a : Int), I64 (u : Int)]] 2, .live [.agg [I64 b.tax, V1, .sl (R.map encR) t2]] 3], tk⟩ ∧ AppV 39 (((rot (a % b.cs.length) b.cs).take q).map encC) V1 tk) (fun q => b.cs.length - q) 0 ?_ ?_
  · simp only [go_sem, Nat.reduceEqDiff, Nat.reduceAdd, Nat.reduceLT, Nat.reduceLeDiff, reduceIte, g3, g4, g5, g7]
    exact ⟨trivial, trivial, trivial, trivial, rfl, by omega, _, _, rfl, .inl ⟨rfl, rfl⟩⟩
  rintro q e m ⟨g3, g4, g5, g7, g8, hq, V1, tk, rfl, hA⟩
  obtain ⟨t1, rfl⟩ := hA.sl
  by_cases hlt : q < b.cs.length
  · have hj : (q + a) % b.cs.length < b.cs.length := Nat.mod_lt _ (by omega)
    have hk2 : b.cs[(q + a) % b.cs.length]? = some (b.cs[(q + a) % b.cs.length]) := List.getElem?_eq_getElem hj
    have hrot := (rot_get (by' := a) hlt).trans hk2
    generalize b.cs[(q + a) % b.cs.length] = z at hk2 hrot
    have w1 : IntKind.i64.wrap ((q : Int) + (a : Int)) = ((q + a : Nat) : Int) := by rw [wrap_i64 _ (by omega) (by omega)]; omega
    have kz : decide ((b.cs.length : Int) = 0) = false := decide_eq_false (by omega)
    have w2 : Int.tmod ((q + a : Nat) : Int) (b.cs.length : Int) = (((q + a) % b.cs.length : Nat) : Int) := by rw [Int.tmod_eq_emod_of_nonneg (by omega)]; rfl
    have w3 : IntKind.i64.wrap (((q + a) % b.cs.length : Nat) : Int) = (((q + a) % b.cs.length : Nat) : Int) := wrap_i64 _ (by omega) (by omega)
    simp only [go_sem, Nat.reduceEqDiff, Nat.reduceAdd, Nat.reduceLT, Nat.reduceLeDiff, reduceIte, g3, g4, g5, g7, g8, dec_lt hlt, w1, kz, w2, w3, Cs_idx hk2]
    have hce : ∀ e ∈ ((rot (a % b.cs.length) b.cs).take q).map encC, e.cells.length = 9 := fun e he => by
      obtain ⟨x, _, rfl⟩ := List.mem_map.1 he; rfl
    refine hA.app (y := encC z) (sz := 9) (bytes := 104) hce rfl (by rw [List.length_map, List.length_take]; unfold limit; omega) fun v' tk' hv _ => ?_
    have em : ((rot (a % b.cs.length) b.cs).take q).map encC ++ [encC z] = ((rot (a % b.cs.length) b.cs).take (q + 1)).map encC := by rw [take_snoc hrot, List.map_append]; rfl
    rw [em] at hv
    obtain ⟨t1', rfl⟩ := hv.sl
    simp only [go_sem, Nat.reduceEqDiff, Nat.reduceAdd, Nat.reduceLT, Nat.reduceLeDiff, reduceIte, g3, g4, g5, g7, g8, wrap_n1 q (by omega)]
    refine Nx_of (q + 1) (by omega) ?_
    simp only [go_sem, Nat.reduceEqDiff, Nat.reduceAdd, Nat.reduceLT, Nat.reduceLeDiff, reduceIte, g3, g4, g5, g7]
    exact ⟨trivial, trivial, trivial, trivial, trivial, by omega, _, _, rfl, hv⟩
  have eq2 : q = b.cs.length := by omega
  have hC1 : (rot (a % b.cs.length) b.cs).take q = rot (a % b.cs.length) b.cs := by
    rw [eq2, List.take_of_length_le (by rw [rot_len]; exact Nat.le_refl _)]
  rw [hC1] at hA ⊢
  have hCp := rot_perm (a % b.cs.length) b.cs
  generalize rot (a % b.cs.length) b.cs = C at hA hCp hC1 ⊢
  have O := ordF h0 hCp hRm hRl
  have hFo : NF ⟨b.tax, C, R⟩ := ⟨by show C.length < _; rw [hCp.length_eq]; omega, by show R.length < _; omega, fun d hd => hF.s d (hCp.mem_iff.1 hd)⟩
  have hW := Week_ok b hF x.f x.w
  rw [weekM_some h0 hs i0 i1] at hW
  have hX := Week_ok ⟨b.tax, C, R⟩ hFo x.f x.w
  rw [weekM_some O.ok ((O.find x.f).trans hs) i0 i1, O.acc] at hX
  have hD := Due_ok b hF x.f x.w
  rw [dueMM_some h0 hs (by omega) (by omega)] at hD
  have hE := Due_ok ⟨b.tax, C, R⟩ hFo x.f x.w
  rw [dueMM_some O.ok ((O.find x.f).trans hs) (by omega) (by omega), O.due] at hE
  obtain ⟨S, s1, s2, _⟩ := eachOnce_ok b.rs [] (by omega) (by simp)
  rw [List.append_nil] at s1
  have hM1 := Merge_ok b hF l3 [] (by simp)
  rw [merge_nil h0 s1 s2] at hM1
  have hM1 : RV ft 24 [encB b, .sl [] .unk] (.tup [encB ⟨b.tax, b.cs, dst b.rs⟩, I64 0]) := hM1
  have hM2 := Merge_ok ⟨b.tax, b.cs, b.rs.take u⟩ ⟨hF.c, by show (b.rs.take u).length < _; rw [List.length_take]; omega, hF.s⟩ l3 (b.rs.drop u) (by rw [List.length_drop]; omega)
  rw [merge_cut h0 s1 s2 u] at hM2
  have hds := dst_short h0 s1 s2
  have hS := same_ok ⟨b.tax, b.cs, dst b.rs⟩ ⟨hF.c, by show (dst b.rs).length < _; omega, hF.s⟩
  have hM2 : RV ft 24 [encB ⟨b.tax, b.cs, b.rs.take u⟩, encRs (b.rs.drop u)] (.tup [encB ⟨b.tax, b.cs, dst b.rs⟩, I64 0]) := hM2
  generalize acc b c x.w = A at hW hX
  generalize dueM b c x.w = D at hD hE
  obtain ⟨M, hMe⟩ : ∃ M : Bk, M = ⟨b.tax, b.cs, dst b.rs⟩ := ⟨_, rfl⟩
  rw [← hMe] at hM1 hM2 hS
  clear hMe O
  have e1 : ∀ m, snap m 12 (.agg [I64 b.tax, .sl (C.map encC) t1, .sl (R.map encR) t2]) = encB ⟨b.tax, C, R⟩ := fun m => snO m 6 b.tax C R t1 t2
  have e2 : hot 12 (.agg [I64 b.tax, .sl (C.map encC) t1, .sl (R.map encR) t2]) = false := hotO 6 b.tax C R t1 t2
  have eB : ∀ l : List Rp, AV.agg [I64 b.tax, encCs b.cs, encRs l] = encB ⟨b.tax, b.cs, l⟩ := fun l => rfl
  have f1 := fun m => Rs_to m b.rs u hu1
  have f2 := fun m => Rs_from m b.rs u hu1
  simp only [go_sem, Nat.reduceEqDiff, Nat.reduceAdd, Nat.reduceLT, Nat.reduceLeDiff, reduceIte, g3, g4, g5, g7, g8, dec_ge (show b.cs.length ≤ q by omega), e1, e2, WB19, WVH_eq hW, WVH_eq hX, true_and, WB23, WVH_eq hD, WVH_eq hE, WB24, WVH_eq hM1, WF22, WVH_eq hCy, f1, f2, wB2, eB, WVH_eq hM2, eqA_self, Bool.false_eq_true, if_false, WB25, WVH_eq hS, WB16, WVH_eq works_ok]
  try rfl
end Go.Ab.T
end
