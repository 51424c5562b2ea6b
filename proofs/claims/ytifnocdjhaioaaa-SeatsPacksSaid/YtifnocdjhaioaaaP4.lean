/-
  A part of the proofs over this seat.
  (The texts KhK4 KhK5 KhK6, one behind the other.)
-/
import Derived.Test.YtifnocdjhaioaaaP3
import Derived.Test.YtifnocdjhaioaaaP2
set_option linter.unusedSimpArgs false
set_option linter.unusedVariables false
set_option linter.unusedSectionVars false
section
namespace Go.Ab.T
set_option maxRecDepth 8000
set_option maxHeartbeats 4000000
/-- The table of sets when all before one are known, and something of this one. -/
def SL (rows zs : List Int) (S : Nat) (c : Pk) : List Pk := (List.range S).map (bst rows zs) ++ c :: List.replicate (2 ^ zs.length - S - 1) p0
def eL (l : List Pk) : List AV := l.map encP
theorem SL_len {rows zs : List Int} {S : Nat} (c : Pk) (h : S < 2 ^ zs.length) : (SL rows zs S c).length = 2 ^ zs.length := by
  unfold SL; simp; omega
theorem SL_at {rows zs : List Int} {S : Nat} (c : Pk) : (eL (SL rows zs S c))[S]? = some (encP c) := by
  unfold eL SL
  rw [List.getElem?_map, List.getElem?_append_right (by simp)]; simp
theorem SL_get {rows zs : List Int} {S i : Nat} (c : Pk) (h : i < S) : (eL (SL rows zs S c))[i]? = some (encP (bst rows zs i)) := by
  unfold eL SL
  rw [List.getElem?_map, List.getElem?_append_left (by simpa using h), List.getElem?_map, List.getElem?_range h]; rfl
theorem SL_set {rows zs : List Int} {S : Nat} (c d : Pk) : (eL (SL rows zs S c)).set S (encP d) = eL (SL rows zs S d) := by
  unfold eL
  rw [← List.map_set]
  congr 1
  unfold SL
  rw [List.set_append_right _ _ (by simp)]; simp
theorem SL_next {rows zs : List Int} {S : Nat} (h : S + 1 < 2 ^ zs.length) : SL rows zs S (bst rows zs S) = SL rows zs (S + 1) p0 := by
  unfold SL
  rw [List.range_succ, List.map_append, List.append_assoc]
  congr 1
  rw [show 2 ^ zs.length - S - 1 = (2 ^ zs.length - (S + 1) - 1) + 1 by omega, List.replicate_succ]; rfl
theorem SL_first {rows zs : List Int} (h : 1 < 2 ^ zs.length) : List.replicate (2 ^ zs.length) p0 = SL rows zs 1 p0 := by
  unfold SL
  rw [show 2 ^ zs.length = (2 ^ zs.length - 1 - 1) + 1 + 1 by omega, List.replicate_succ, List.replicate_succ]; rfl
theorem SL_last {rows zs : List Int} {S : Nat} (h : S + 1 = 2 ^ zs.length) : SL rows zs S (bst rows zs S) = (List.range (2 ^ zs.length)).map (bst rows zs) := by
  unfold SL
  rw [← h, List.range_succ, List.map_append, show S + 1 - S - 1 = 0 by omega]; rfl
theorem make_ps (m : Mem) {n : Nat} (hn : n ≤ 128) : makeAt m (.agg [I64 0, I64 0, I64 0]) 3 24 (I64 (n : Int)) (I64 (n : Int)) = some (.ref m.blks.length 0 n, newBlk m (eL (List.replicate n p0)) 3) := by
  rw [makeAt_int, if_pos ⟨⟨by omega, rfl⟩, by rw [Int.toNat_natCast]; unfold limit; omega, rfl, rfl⟩, Int.toNat_natCast]
  unfold eL; rw [List.map_replicate]; rfl
theorem idx_refP (es : List AV) (ws : List Blk) (tk : List (Nat × Nat)) {n k : Nat} (hk : k < n) : idxAt ⟨.live es 3 :: ws, tk⟩ (.ref 0 0 n) (I64 (k : Int)) 3 = some (.ptr 0 k 0) := by
  simp only [idxAt, lsz, List.getElem?_cons_zero]
  rw [if_pos ⟨⟨by omega, by omega⟩, trivial⟩, Int.toNat_natCast, Nat.zero_add]
theorem wP0 (p : Pk) (n : Nat) : writeCells (encP p) 0 [I64 (n : Int)] = some (encP ((n, p.1.2), p.2)) := rfl
/-- Rows that are at most 12, and groups likewise. -/
structure PV (rows zs : List Int) : Prop where
  rz : ∀ x ∈ rows, 0 ≤ x ∧ x ≤ 12
  zz : ∀ z ∈ zs, 0 ≤ z ∧ z ≤ 12
  r6 : rows.length ≤ 30
  z7 : zs.length ≤ 7
theorem add_bd {rows zs : List Int} (h : PV rows zs) {f : Nat × Int} {z : Int} (hz0 : 0 ≤ z) (hz : z ≤ 12) (hf : 0 ≤ f.2) : 0 ≤ (addF rows f z).2 ∧ (addF rows f z).2 ≤ 12 := by
  rcases addF_spec rows f z with ⟨a1, a2, a3⟩ | ⟨_, ⟨j, a1, a2, a3, _⟩ | ⟨a3, _⟩⟩ <;> rw [a3] <;> dsimp only
  · rw [getD_lt a1] at a2
    have := (h.rz _ (List.getElem_mem a1)).2
    omega
  · omega
  · omega
theorem bst_bd {rows zs : List Int} (h : PV rows zs) (S : Nat) : 0 ≤ (bst rows zs S).1.2 ∧ (bst rows zs S).1.2 ≤ 12 := by
  induction S using Nat.strongRecOn with
  | _ S ih =>
    by_cases h0 : S = 0
    · subst h0; exact ⟨Int.le_refl _, (by decide : (0 : Int) ≤ 12)⟩
    · rw [bst_pos h0]
      rcases cell_src rows (bst rows zs) S zs 0 ((rows.length, 0), 0) with hc | ⟨n, z, h1, h2, h3⟩
      · rw [hc]; exact ⟨Int.le_refl _, (by decide : (0 : Int) ≤ 12)⟩
      · rw [h3]
        have hp := testBit_le h2
        have hq := Nat.two_pow_pos (0 + n)
        have hz := h.zz z (List.mem_of_getElem? h1)
        exact add_bd h hz.1 hz.2 (ih (S - 2 ^ (0 + n)) (by omega)).1
theorem addP_ok {rows zs : List Int} (h : PV rows zs) (S : Nat) {z : Int} (hz : z ∈ zs) : RV ft 62 [encIs rows, encF (bst rows zs S).1, I64 z] (encF (addF rows (bst rows zs S).1 z)) := by
  have h1 := bst_bd h S
  have h2 := h.zz z hz
  have h3 := h.r6
  exact add_ok rows _ z (by omega) (bst_row rows zs S) h1.1 (by omega) h2.1 (by omega)
theorem nL_ownly (l : List Nat) : (Blk.live (nL l) 1).ownly = true := by
  show (nL l).all (Ab.ownly 11) = true
  rw [List.all_eq_true]
  intro x hx
  obtain ⟨n, _, rfl⟩ := List.mem_map.1 hx
  rfl
theorem nL_shift (db dt q n : Nat) (l : List Nat) : shiftB db dt (q + 1) (.live (nL l) n) = .live (nL l) n := by
  show Blk.live ((nL l).map (Ab.shift db dt (q + 1))) n = _
  unfold nL
  rw [List.map_map]; rfl
def packV (rows zs : List Int) : AV := .tup [encIs (if okPk rows zs = true then (rowsPk rows zs).map fun n : Nat => (n : Int) else []), .bool (okPk rows zs)]
theorem pack_ok {rows zs : List Int} (h : PV rows zs) : RV ft 46 [encIs rows, encIs zs] (packV rows zs) := by
  have h7 := pow7 h.z7
  have hp := Nat.two_pow_pos zs.length
  have hr6 := h.r6
  have hz7 := h.z7
  refine RV_of ft46 rfl ?_
  simp only [c46, r46]
  simp only [go_sem, Nat.reduceEqDiff, Nat.reduceAdd, Nat.reduceLT, Nat.reduceLeDiff, reduceIte, shl_op h.z7, make_ps _ h7]
  refine WL_inv (α := Nat × List Pk × List Blk) (fun q e mm => e 0 = encIs rows ∧ e 1 = encIs zs ∧ e 6 = .ref 0 0 (2 ^ zs.length) ∧ e 7 = I64 q.1 ∧ 1 ≤ q.1 ∧ q.1 ≤ 2 ^ zs.length ∧ q.2.1.length = 2 ^ zs.length ∧ (q.1 < 2 ^ zs.length → q.2.1 = SL rows zs q.1 p0) ∧ (q.1 = 2 ^ zs.length → q.2.1 = (List.range (2 ^ zs.length)).map (bst rows zs)) ∧ mm = ⟨.live (eL q.2.1) 3 :: q.2.2, []⟩) (fun q => 2 ^ zs.length - q.1) (1, List.replicate (2 ^ zs.length) p0, []) ?_ ?_
  · simp only [go_sem, Nat.reduceEqDiff, Nat.reduceAdd, Nat.reduceLT, Nat.reduceLeDiff, reduceIte]
    refine ⟨trivial, trivial, trivial, rfl, trivial, hp, by simp, fun h => SL_first h, fun h => ?_, ?_⟩
    · rw [← h]; rfl
    · trivial
  rintro ⟨S, l, ws⟩ e m ⟨g0, g1, g6, g7, hS1, hS2, hll, hlt, heq, rfl⟩
  dsimp only at g7 hS1 hS2 hll hlt heq
  by_cases hS : S < 2 ^ zs.length
  case neg =>
    obtain rfl : S = 2 ^ zs.length := by omega
    have hl := heq rfl
    have hw : IntKind.i64.wrap (((2 ^ zs.length : Nat) : Int) - 1) = ((fullS zs : Nat) : Int) := by
      unfold fullS
      rw [wrap_i64 _ (by omega) (by omega)]; omega
    have hf : (eL l)[fullS zs]? = some (encP (bst rows zs (fullS zs))) := by
      subst hl
      unfold eL
      rw [List.getElem?_map, List.getElem?_map, List.getElem?_range (by unfold fullS; omega)]; rfl
    have hrow := bst_row rows zs (fullS zs)
    cases ho : okPk rows zs
    · have he := of_decide_eq_false ho
      simp only [go_sem, Nat.reduceEqDiff, Nat.reduceAdd, Nat.reduceLT, Nat.reduceLeDiff, reduceIte, g0, g1, g6, g7, show decide (((2 ^ zs.length : Nat) : Int) < ((2 ^ zs.length : Nat) : Int)) = false from decide_eq_false (by omega), hw, idx_refP _ _ _ (show fullS zs < 2 ^ zs.length by unfold fullS; omega), hf, show (((bst rows zs (fullS zs)).1.1 : Int) == (rows.length : Int)) = true by rw [beq_iff_eq]; omega]
      unfold packV
      rw [ho]; rfl
    have he := of_decide_eq_true ho
    simp only [go_sem, Nat.reduceEqDiff, Nat.reduceAdd, Nat.reduceLT, Nat.reduceLeDiff, reduceIte, g0, g1, g6, g7, show decide (((2 ^ zs.length : Nat) : Int) < ((2 ^ zs.length : Nat) : Int)) = false from decide_eq_false (by omega), hw, idx_refP _ _ _ (show fullS zs < 2 ^ zs.length by unfold fullS; omega), hf, show (((bst rows zs (fullS zs)).1.1 : Int) == (rows.length : Int)) = false by rw [beq_eq_false_iff_ne]; omega, WB64]
    have hsn : ∀ m : Mem, snEs m 11 (if 0 + 2 ^ zs.length ≤ (eL l).length then some (List.take (2 ^ zs.length) (eL l)) else none) = encPs l := fun m => by
      have h1 : (eL l).length = 2 ^ zs.length := by unfold eL; rw [List.length_map]; exact hll
      rw [if_pos (by omega), List.take_of_length_le (by omega)]
      show AV.sl ((eL l).map (Ab.snap m 11)) .unk = encPs l
      unfold eL encPs
      rw [List.map_map]; rfl
    rw [hsn]
    refine unpack_W hz7 (by omega) hl (by omega) _ fun ws2 hw2 => ?_
    simp only [go_sem, Nat.reduceEqDiff, Nat.reduceAdd, Nat.reduceLT, Nat.reduceLeDiff, reduceIte]
    have hr : (rowsPk rows zs).length = zs.length := by
      unfold rowsPk
      have hR1 : 0 < rows.length := by omega
      have := un_ok (rows := rows) (fun z hz => (h.zz z hz).1) hz7 (by rw [getD_lt hR1]; exact (h.rz _ (List.getElem_mem _)).1) (fullS zs) (fullS zs) (List.replicate zs.length 0) (Nat.le_refl _) (by unfold fullS; omega) (by omega) (by simp)
      exact this.1
    refine ⟨?_, ?_⟩
    · rw [nL_ownly, hw2]; rfl
    · unfold packV
      rw [ho, if_pos rfl]
      congr 2
      show Ab.snap _ 11 (.ref (ws.length + 1 + 0) 0 zs.length) = _
      have hb : (joinMem ⟨.live (eL l) 3 :: ws, []⟩ ⟨.live (nL (rowsPk rows zs)) 1 :: ws2, []⟩ 12).blks[ws.length + 1 + 0]? = some (.live (nL (rowsPk rows zs)) 1) := by
        show ((.live (eL l) 3 :: ws) ++ (shiftB _ _ _ (.live (nL (rowsPk rows zs)) 1) :: ws2.map _))[ws.length + 1 + 0]? = _
        rw [List.getElem?_append_right (by simp)]
        simp only [List.length_cons, Nat.add_zero, Nat.sub_self, List.getElem?_cons_zero]
        rw [nL_shift]
      rw [snap_ref, elems_ref, hb, elBlk_live, if_pos (by rw [nL_len]; omega), List.drop_zero, List.take_of_length_le (by rw [nL_len]; omega)]
      show AV.sl ((nL (rowsPk rows zs)).map (Ab.snap _ 10)) .unk = _
      unfold nL encIs
      rw [List.map_map, List.map_map]; rfl
  obtain rfl := hlt hS
  simp only [go_sem, Nat.reduceEqDiff, Nat.reduceAdd, Nat.reduceLT, Nat.reduceLeDiff, reduceIte, g0, g1, g6, g7, show decide ((S : Int) < ((2 ^ zs.length : Nat) : Int)) = true from decide_eq_true (by omega), idx_refP _ _ _ hS, SL_at, wP0, SL_set]
  refine WL_inv (α := Nat × List Int × Pk × List Blk) (fun q e mm => e 0 = encIs rows ∧ e 1 = encIs zs ∧ e 6 = .ref 0 0 (2 ^ zs.length) ∧ e 7 = I64 S ∧ e 29 = encIs zs ∧ e 30 = I64 zs.length ∧ e 31 = I64 q.1 ∧ zs.drop q.1 = q.2.1 ∧ q.1 ≤ zs.length ∧ cellF rows (bst rows zs) S q.2.1 q.1 q.2.2.1 = bst rows zs S ∧ mm = ⟨.live (eL (SL rows zs S q.2.2.1)) 3 :: q.2.2.2, []⟩) (fun q => q.2.1.length) (0, zs, ((rows.length, 0), 0), ws) ?_ ?_
  · simp only [go_sem, Nat.reduceEqDiff, Nat.reduceAdd, Nat.reduceLT, Nat.reduceLeDiff, reduceIte, g0, g1, g6, g7]
    exact ⟨trivial, trivial, trivial, trivial, trivial, trivial, rfl, trivial, Nat.zero_le _, (bst_pos (by omega)).symm, rfl⟩
  rintro ⟨k, r, c, ws⟩ e m ⟨g0, g1, g6, g7, g29, g30, g31, hd, hk0, hq, rfl⟩
  dsimp only at g31 hd hk0 hq
  cases r with
  | nil =>
    have h4 := drop_nil hd
    have hc : c = bst rows zs S := hq
    subst hc
    simp only [go_sem, Nat.reduceEqDiff, Nat.reduceAdd, Nat.reduceLT, Nat.reduceLeDiff, reduceIte, g0, g1, g6, g7, g29, g30, g31, dec_ge h4, wrap_n1 S (by omega)]
    refine Nx_of (S + 1, SL rows zs S (bst rows zs S), ws) (by dsimp only; omega) ?_
    simp only [go_sem, Nat.reduceEqDiff, Nat.reduceAdd, Nat.reduceLT, Nat.reduceLeDiff, reduceIte, g0, g1, g6, g7]
    exact ⟨trivial, trivial, trivial, trivial, by first | trivial | omega, hS, SL_len _ hS, fun h => SL_next h, fun h => SL_last h, trivial⟩
  | cons z r =>
    obtain ⟨hk, hd2, hlt'⟩ := drop_cons hd
    have hzm : z ∈ zs := List.mem_of_getElem? hk
    rw [cellF] at hq
    cases hb : S.testBit k
    · rw [hb] at hq
      simp only [Bool.false_eq_true, if_false] at hq
      simp only [go_sem, Nat.reduceEqDiff, Nat.reduceAdd, Nat.reduceLT, Nat.reduceLeDiff, reduceIte, g0, g1, g6, g7, g29, g30, g31, dec_lt hlt', Is_idx hk, shr_op S (show k ≤ 7 by omega), bit_op, hb, Bool.not_false, wrap_n1 k (by omega)]
      refine Nx_of (k + 1, r, c, ws) (by simp) ?_
      simp only [go_sem, Nat.reduceEqDiff, Nat.reduceAdd, Nat.reduceLT, Nat.reduceLeDiff, reduceIte, g0, g1, g6, g7, g29, g30]
      exact ⟨trivial, trivial, trivial, trivial, trivial, trivial, trivial, hd2, by omega, hq, trivial⟩
    · rw [hb] at hq
      simp only [if_true] at hq
      have hp2 := testBit_le hb
      have hp3 := Nat.two_pow_pos k
      have ha := addP_ok h (S - 2 ^ k) hzm
      cases hx : ltF (addF rows (bst rows zs (S - 2 ^ k)).1 z) c.1
      · rw [hx] at hq
        simp only [Bool.false_eq_true, if_false] at hq
        simp only [go_sem, Nat.reduceEqDiff, Nat.reduceAdd, Nat.reduceLT, Nat.reduceLeDiff, reduceIte, g0, g1, g6, g7, g29, g30, g31, dec_lt hlt', Is_idx hk, shr_op S (show k ≤ 7 by omega), bit_op, hb, Bool.not_true, shl_op (show k ≤ 7 by omega), andNot_op (show S < 128 by omega) (show k < 7 by omega) hb, idx_refP _ _ _ (show S - 2 ^ k < 2 ^ zs.length by omega), SL_get c (show S - 2 ^ k < S by omega), FEta, WB62, WVH_eq ha, true_and, idx_refP _ _ _ hS, SL_at, WB63, WVH_eq (less_ok _ _), hx, wrap_n1 k (by omega)]
        refine Nx_of (k + 1, r, c, ws ++ [.live [encP (bst rows zs (S - 2 ^ k))] 3] ++ [.live [encF (addF rows (bst rows zs (S - 2 ^ k)).1 z)] 2]) (by simp) ?_
        simp only [go_sem, Nat.reduceEqDiff, Nat.reduceAdd, Nat.reduceLT, Nat.reduceLeDiff, reduceIte, g0, g1, g6, g7, g29, g30]
        exact ⟨trivial, trivial, trivial, trivial, trivial, trivial, trivial, hd2, by omega, hq, rfl⟩
      · rw [hx] at hq
        simp only [if_true] at hq
        have hw3 : writeCells (encP c) 0 [I64 ((addF rows (bst rows zs (S - 2 ^ k)).1 z).1 : Int), I64 (addF rows (bst rows zs (S - 2 ^ k)).1 z).2, I64 (k : Int)] = some (encP (addF rows (bst rows zs (S - 2 ^ k)).1 z, k)) := rfl
        simp only [go_sem, Nat.reduceEqDiff, Nat.reduceAdd, Nat.reduceLT, Nat.reduceLeDiff, reduceIte, g0, g1, g6, g7, g29, g30, g31, dec_lt hlt', Is_idx hk, shr_op S (show k ≤ 7 by omega), bit_op, hb, Bool.not_true, shl_op (show k ≤ 7 by omega), andNot_op (show S < 128 by omega) (show k < 7 by omega) hb, idx_refP _ _ _ (show S - 2 ^ k < 2 ^ zs.length by omega), SL_get c (show S - 2 ^ k < S by omega), FEta, WB62, WVH_eq ha, true_and, idx_refP _ _ _ hS, SL_at, WB63, WVH_eq (less_ok _ _), hx, wrap_n1 k (by omega), hw3, SL_set]
        refine Nx_of (k + 1, r, (addF rows (bst rows zs (S - 2 ^ k)).1 z, k), ws ++ [.live [encP (bst rows zs (S - 2 ^ k))] 3] ++ [.live [encF (addF rows (bst rows zs (S - 2 ^ k)).1 z)] 2]) (by simp) ?_
        simp only [go_sem, Nat.reduceEqDiff, Nat.reduceAdd, Nat.reduceLT, Nat.reduceLeDiff, reduceIte, g0, g1, g6, g7, g29, g30]
        exact ⟨trivial, trivial, trivial, trivial, trivial, trivial, trivial, hd2, by omega, hq, rfl⟩
end Go.Ab.T
end

section
namespace Go.Ab.T
set_option maxRecDepth 8000
set_option maxHeartbeats 4000000
def iL (l : List Int) : List AV := l.map I64
theorem iL_len (l : List Int) : (iL l).length = l.length := by unfold iL; simp
theorem iL_get {l : List Int} {k : Nat} (h : k < l.length) : (iL l)[k]? = some (I64 (l.getD k 0)) := by
  unfold iL; rw [List.getElem?_map, List.getElem?_eq_getElem h, getD_lt h]; rfl
theorem iL_set (l : List Int) (k : Nat) (x : Int) : (iL l).set k (I64 x) = iL (l.set k x) := by unfold iL; rw [List.map_set]
theorem app0_ints (m : Mem) {l : List Int} (hn : l ≠ []) (hl : l.length ≤ 1000000)   : append0 m (.sl [] .tight) (encIs l) 1 8 = some (.ref m.blks.length 0 l.length, newBlk m (iL l) 1) := by
  have h1 : hdSz (iL l) 1 = true := Is_hd l
  have h2 : (iL l).length = l.length := iL_len l
  have h3 : iL l ≠ [] := by unfold iL; simpa using hn
  show append0 m (.sl [] .tight) (.sl (iL l) .unk) 1 8 = _
  simp only [append0, elems_sl, h1, h2]
  rw [if_pos ⟨⟨by unfold limit; omega, trivial⟩, h3⟩]
theorem idx_ref1 (B : Blk) (es : List AV) (ws : List Blk) (tk : List (Nat × Nat)) {n : Nat} {r : Int} (h0 : 0 ≤ r) (h1 : r < (n : Int)) : idxAt ⟨B :: .live es 1 :: ws, tk⟩ (.ref 1 0 n) (I64 r) 1 = some (.ptr 1 r.toNat 0) := by
  simp only [idxAt, lsz, List.getElem?_cons_zero, List.getElem?_cons_succ]
  rw [if_pos ⟨⟨h0, h1⟩, trivial⟩, Nat.zero_add]
theorem pkF_left (left : List Int) {zs rs : List Int} (h : zs = [] ∨ rs = []) : pkF left zs rs = decide (rs.length = zs.length) := by
  rcases h with rfl | rfl
  · exact pkF_nil _ _
  · rw [pkF_nil', List.length_nil]
theorem Packed_ok {h : Hl} {zs rs : List Int} (hv : PV h.rows zs) (hn : h.rows ≠ []) (hr : rs.length < 1073741824) : RV ft 28 [encH h, encIs zs, encIs rs] (.bool (pkF h.rows zs rs)) := by
  have hr6 := hv.r6
  have hz7 := hv.z7
  refine RV_of ft28 rfl ?_
  simp only [c28, r28]
  have hap := fun m => app0_ints m hn (by omega)
  simp only [go_sem, Nat.reduceEqDiff, Nat.reduceAdd, Nat.reduceLT, Nat.reduceLeDiff, reduceIte, hap]
  refine WL_inv (α := Nat × List Int × List Int × List Int) (fun q e mm => e 1 = encIs zs ∧ e 2 = encIs rs ∧ e 7 = .ref 1 0 h.rows.length ∧ e 8 = I64 q.1 ∧ zs.drop q.1 = q.2.1 ∧ rs.drop q.1 = q.2.2.1 ∧ q.1 ≤ zs.length ∧ q.1 ≤ rs.length ∧ q.2.2.2.length = h.rows.length ∧ (∀ x ∈ q.2.2.2, 0 ≤ x ∧ x ≤ 12) ∧ pkF q.2.2.2 q.2.1 q.2.2.1 = pkF h.rows zs rs ∧ mm = ⟨[.live [encH h] 2, .live (iL q.2.2.2) 1], []⟩) (fun q => q.2.1.length) (0, zs, rs, h.rows) ?_ ?_
  · simp only [go_sem, Nat.reduceEqDiff, Nat.reduceAdd, Nat.reduceLT, Nat.reduceLeDiff, reduceIte]
    exact ⟨trivial, trivial, trivial, rfl, trivial, trivial, Nat.zero_le _, Nat.zero_le _, trivial, hv.rz, trivial⟩
  rintro ⟨k, z', r', left⟩ e m ⟨g1, g2, g7, g8, hz, hr', hk1, hk2, hll, hlx, hq, rfl⟩
  dsimp only at g8 hz hr' hk1 hk2 hll hlx hq
  have hend : ∀ (_ : z' = [] ∨ r' = []), pkF h.rows zs rs = ((rs.length : Int) == (zs.length : Int)) := fun hx => by
    rw [← hq, pkF_left left hx, Bool.eq_iff_iff, decide_eq_true_eq, beq_iff_eq, ← hz, ← hr', List.length_drop, List.length_drop]
    omega
  cases r' with
  | nil =>
    have h4 := drop_nil hr'
    rw [hend (.inr rfl)]
    simp only [go_sem, Nat.reduceEqDiff, Nat.reduceAdd, Nat.reduceLT, Nat.reduceLeDiff, reduceIte, g1, g2, g7, g8, dec_ge h4]
  | cons r r' =>
    obtain ⟨hkr, hdr, hltr⟩ := drop_cons hr'
    cases z' with
    | nil =>
      have h4 := drop_nil hz
      rw [hend (.inl rfl)]
      simp only [go_sem, Nat.reduceEqDiff, Nat.reduceAdd, Nat.reduceLT, Nat.reduceLeDiff, reduceIte, g1, g2, g7, g8, dec_lt hltr, dec_ge h4]
    | cons z z' =>
      obtain ⟨hkz, hdz, hltz⟩ := drop_cons hz
      have hzb := hv.zz z (List.mem_of_getElem? hkz)
      rw [pkF_cons] at hq
      have hw : IntKind.i64.wrap ((h.rows.length : Int) - 1) = (h.rows.length : Int) - 1 := wrap_i64 _ (by omega) (by omega)
      by_cases hrr : 0 ≤ r ∧ r ≤ (left.length : Int) - 1
      case neg =>
        rw [if_neg hrr] at hq
        rw [← hq]
        have hin : inR r 0 ((h.rows.length : Int) - 1) = false := by
          unfold inR
          rw [Bool.and_eq_false_iff, decide_eq_false_iff_not, decide_eq_false_iff_not]; omega
        simp only [go_sem, Nat.reduceEqDiff, Nat.reduceAdd, Nat.reduceLT, Nat.reduceLeDiff, reduceIte, g1, g2, g7, g8, dec_lt hltr, dec_lt hltz, Is_idx hkr, hw, WB43, WVH_eq (within_ok _ _ _), true_and, hin]
      rw [if_pos hrr] at hq
      have hin : inR r 0 ((h.rows.length : Int) - 1) = true := by
        unfold inR
        rw [Bool.and_eq_true, decide_eq_true_eq, decide_eq_true_eq]; omega
      have hrl : r.toNat < left.length := by omega
      have hxb : 0 ≤ left.getD r.toNat 0 ∧ left.getD r.toNat 0 ≤ 12 := by rw [getD_lt hrl]; exact hlx _ (List.getElem_mem _)
      have hg := iL_get hrl
      have hi := fun B es ws tk => idx_ref1 B es ws tk (n := h.rows.length) hrr.1 (by omega)
      obtain ⟨x, hx⟩ : ∃ x, x = left.getD r.toNat 0 := ⟨_, rfl⟩
      rw [← hx] at hg hq hxb
      have hw2 : IntKind.i64.wrap (x - z) = x - z := wrap_i64 _ (by omega) (by omega)
      have hg2 : (iL (left.set r.toNat (x - z)))[r.toNat]? = some (I64 (x - z)) := by
        rw [iL_get (by rw [List.length_set]; exact hrl), getD_setI hrl, if_pos rfl]
      by_cases hneg : x - z < 0
      · rw [if_pos hneg] at hq
        rw [← hq]
        simp only [go_sem, Nat.reduceEqDiff, Nat.reduceAdd, Nat.reduceLT, Nat.reduceLeDiff, reduceIte, g1, g2, g7, g8, dec_lt hltr, dec_lt hltz, Is_idx hkr, hw, WB43, WVH_eq (within_ok _ _ _), true_and, hin, hi, hg, Is_idx hkz, hw2, iL_set, hg2, show decide (x - z < 0) = true from decide_eq_true hneg]
      · rw [if_neg hneg] at hq
        simp only [go_sem, Nat.reduceEqDiff, Nat.reduceAdd, Nat.reduceLT, Nat.reduceLeDiff, reduceIte, g1, g2, g7, g8, dec_lt hltr, dec_lt hltz, Is_idx hkr, hw, WB43, WVH_eq (within_ok _ _ _), true_and, hin, hi, hg, Is_idx hkz, hw2, iL_set, hg2, show decide (x - z < 0) = false from decide_eq_false hneg, wrap_n1 k (by omega)]
        refine Nx_of (k + 1, z', r', left.set r.toNat (x - z)) (by simp) ?_
        simp only [go_sem, Nat.reduceEqDiff, Nat.reduceAdd, Nat.reduceLT, Nat.reduceLeDiff, reduceIte, g1, g2, g7]
        refine ⟨trivial, trivial, trivial, trivial, hdz, hdr, by omega, by omega, by rw [List.length_set]; exact hll, fun y hy => ?_, hq, trivial⟩
        rcases List.mem_or_eq_of_mem_set hy with hy | rfl
        · exact hlx y hy
        · omega
theorem take_ints (m : Mem) (l : List Int) {k : Nat} (hk : k ≤ l.length) : sliceAt m (encIs l) none (some (I64 (k : Int))) 1 = some (encIs (l.take k)) := by
  unfold encIs
  rw [sliceAt_sl, if_pos (Is_hd l), bounds_ns, List.length_map, if_pos ⟨by omega, by omega, by omega⟩]
  simp
  cases l <;> rfl
theorem from1_ints (m : Mem) (z : Int) (l : List Int) : sliceAt m (encIs (z :: l)) (some (I64 1)) none 1 = some (encIs l) := by
  unfold encIs
  rw [sliceAt_sl, if_pos (Is_hd (z :: l)), bounds_sn, List.length_map, if_pos ⟨by omega, by simp only [List.length_cons]; omega, by omega⟩]
  simp
  exact ⟨List.take_of_length_le (by rw [List.length_map]; exact Nat.le_refl _), rfl⟩
theorem idx_refW (es : List AV) (ws : List Blk) (tk : List (Nat × Nat)) {n k : Nat} (hk : k < n) : idxAt ⟨ws ++ [.live es 1], tk⟩ (.ref ws.length 0 n) (I64 (k : Int)) 1 = some (.ptr ws.length k 0) := by
  have hb : (ws ++ [Blk.live es 1])[ws.length]? = some (.live es 1) := List.getElem?_concat_length
  simp only [idxAt, lsz, hb]
  rw [if_pos ⟨⟨by omega, by omega⟩, trivial⟩, Int.toNat_natCast, Nat.zero_add]
theorem snap_refW (ws : List Blk) (tk : List (Nat × Nat)) (l : List Int) {n : Nat} (hn : n = l.length) (q : Nat) : Ab.snap ⟨ws ++ [.live (iL l) 1], tk⟩ (q + 3) (.ref ws.length 0 n) = encIs l := by
  subst hn
  rw [snap_ref, elems_ref, List.getElem?_append_right (Nat.le_refl _), Nat.sub_self, List.getElem?_cons_zero, elBlk_live, if_pos (by rw [iL_len]; omega), List.drop_zero, List.take_of_length_le (by rw [iL_len]; omega)]
  show AV.sl ((iL l).map (Ab.snap _ (q + 2))) .unk = _
  unfold iL encIs
  rw [List.map_map]; rfl
theorem canPack_ok : ∀ (zs left : List Int) (_ : left ≠ []) (_ : left.length ≤ 30) (_ : zs.length ≤ 7) (_ : ∀ x ∈ left, 0 ≤ x ∧ x ≤ 12) (_ : ∀ z ∈ zs, 0 ≤ z ∧ z ≤ 12), RV ft 47 [encIs left, encIs zs] (.bool (canC zs left))
  | [], left, _, _, _, _, _ => by
    refine RV_of ft47 rfl ?_
    simp only [c47, r47]
    simp only [go_sem, Nat.reduceEqDiff, Nat.reduceAdd, Nat.reduceLT, Nat.reduceLeDiff, reduceIte, show (((0 : Nat) : Int) == 0) = true from rfl]
    rfl
  | z :: zs, left, hne, hl, hz7, hlx, hzx => by
    refine RV_of ft47 rfl ?_
    simp only [c47, r47]
    have hn0 : (((zs.length + 1 : Nat) : Int) == 0) = false := by rw [beq_eq_false_iff_ne]; omega
    have hzb := hzx z (by simp)
    obtain ⟨f, hf⟩ : ∃ f : Nat → Bool, f = fun r => (decide (z ≤ left.getD r 0) && !((left.take r).any (· == left.getD r 0))) && canC zs (left.set r (left.getD r 0 - z)) := ⟨_, rfl⟩
    have hcan : canC (z :: zs) left = (List.range left.length).any f := by rw [hf]; rfl
    rw [hcan]
    simp only [go_sem, Nat.reduceEqDiff, Nat.reduceAdd, Nat.reduceLT, Nat.reduceLeDiff, reduceIte, List.length_cons, hn0]
    refine WL_inv (α := Nat × List Blk) (fun q e mm => e 0 = encIs left ∧ e 1 = encIs (z :: zs) ∧ e 5 = I64 q.1 ∧ q.1 ≤ left.length ∧ (∀ j, j < q.1 → f j = false) ∧ mm = ⟨q.2, []⟩) (fun q => left.length - q.1) (0, []) ?_ ?_
    · simp only [go_sem, Nat.reduceEqDiff, Nat.reduceAdd, Nat.reduceLT, Nat.reduceLeDiff, reduceIte]
      exact ⟨trivial, trivial, rfl, Nat.zero_le _, fun j hj => by omega, trivial⟩
    rintro ⟨k, ws⟩ e m ⟨g0, g1, g5, hk, hno, rfl⟩
    dsimp only at g5 hk hno
    by_cases hkl : k < left.length
    case neg =>
      obtain rfl : k = left.length := by omega
      simp only [go_sem, Nat.reduceEqDiff, Nat.reduceAdd, Nat.reduceLT, Nat.reduceLeDiff, reduceIte, g0, g1, g5, show decide ((left.length : Int) < (left.length : Int)) = false from decide_eq_false (by omega)]
      congr 1
      symm
      rw [List.any_eq_false]
      intro j hj
      rw [hno j (List.mem_range.1 hj)]; decide
    have hi0 : left[k]? = some (left.getD k 0) := by rw [getD_lt hkl]; exact List.getElem?_eq_getElem hkl
    have hz0 : (z :: zs)[0]? = some z := rfl
    have hi1 : ∀ m : Mem, idxAt m (encIs (z :: zs)) (I64 0) 1 = some (.pv (I64 z) 0) := fun m => Is_idx (k := 0) hz0 m
    have hxb : 0 ≤ left.getD k 0 ∧ left.getD k 0 ≤ 12 := by rw [getD_lt hkl]; exact hlx _ (List.getElem_mem _)
    have hfk : f k = ((decide (z ≤ left.getD k 0) && !((left.take k).any (· == left.getD k 0))) && canC zs (left.set k (left.getD k 0 - z))) := by rw [hf]
    have hg := iL_get hkl
    obtain ⟨x, hx⟩ : ∃ x, x = left.getD k 0 := ⟨_, rfl⟩
    rw [← hx] at hi0 hxb hfk hg
    have hin := in_ok (left.take k) x (by rw [List.length_take]; omega)
    have hge : decide (x ≥ z) = decide (z ≤ x) := rfl
    have hnext : f k = false → ∀ j, j < k + 1 → f j = false := fun h j hj => by
      rcases Nat.lt_or_ge j k with h' | h'
      · exact hno j h'
      · obtain rfl : j = k := by omega
        exact h
    cases hzx' : decide (z ≤ x)
    · simp only [go_sem, Nat.reduceEqDiff, Nat.reduceAdd, Nat.reduceLT, Nat.reduceLeDiff, reduceIte, g0, g1, g5, dec_lt hkl, Is_idx hi0, hi1, hge, hzx', wrap_n1 k (by omega)]
      refine Nx_of (k + 1, ws) (by omega) ?_
      simp only [go_sem, Nat.reduceEqDiff, Nat.reduceAdd, Nat.reduceLT, Nat.reduceLeDiff, reduceIte, g0, g1]
      exact ⟨trivial, trivial, trivial, by omega, hnext (by rw [hfk, hzx']; rfl), trivial⟩
    cases hany : (left.take k).any (· == x)
    case true =>
      simp only [go_sem, Nat.reduceEqDiff, Nat.reduceAdd, Nat.reduceLT, Nat.reduceLeDiff, reduceIte, g0, g1, g5, dec_lt hkl, Is_idx hi0, hi1, hge, hzx', take_ints _ _ hk, WB65, WVH_eq hin, true_and, hany, wrap_n1 k (by omega)]
      refine Nx_of (k + 1, ws) (by omega) ?_
      simp only [go_sem, Nat.reduceEqDiff, Nat.reduceAdd, Nat.reduceLT, Nat.reduceLeDiff, reduceIte, g0, g1]
      exact ⟨trivial, trivial, trivial, by omega, hnext (by rw [hfk, hany]; simp), trivial⟩
    have hsl : (left.set k (x - z)).length = left.length := List.length_set
    have hzx2 := of_decide_eq_true hzx'
    have ih := canPack_ok zs (left.set k (x - z)) (by intro h; rw [h] at hsl; simp at hsl; omega) (by omega) (by simp only [List.length_cons] at hz7; omega) (fun y hy => by
      rcases List.mem_or_eq_of_mem_set hy with hy | rfl
      · exact hlx y hy
      · omega) fun y hy => hzx y (List.mem_cons_of_mem _ hy)
    have hw2 : IntKind.i64.wrap (x - z) = x - z := wrap_i64 _ (by omega) (by omega)
    have hap := fun m => app0_ints m hne (by omega)
    cases hc : canC zs (left.set k (x - z))
    · simp only [go_sem, Nat.reduceEqDiff, Nat.reduceAdd, Nat.reduceLT, Nat.reduceLeDiff, reduceIte, g0, g1, g5, dec_lt hkl, Is_idx hi0, hi1, hge, hzx', take_ints _ _ hk, WB65, WVH_eq hin, true_and, hany, hap, idx_refW _ _ _ hkl, hg, hw2, iL_set, from1_ints, WB47, snap_refW _ _ _ hsl.symm, WVH_eq ih, hc, wrap_n1 k (by omega)]
      refine Nx_of (k + 1, ws ++ [.live (iL (left.set k (x - z))) 1]) (by omega) ?_
      simp only [go_sem, Nat.reduceEqDiff, Nat.reduceAdd, Nat.reduceLT, Nat.reduceLeDiff, reduceIte, g0, g1]
      exact ⟨trivial, trivial, trivial, by omega, hnext (by rw [hfk, hc]; simp), trivial⟩
    · simp only [go_sem, Nat.reduceEqDiff, Nat.reduceAdd, Nat.reduceLT, Nat.reduceLeDiff, reduceIte, g0, g1, g5, dec_lt hkl, Is_idx hi0, hi1, hge, hzx', take_ints _ _ hk, WB65, WVH_eq hin, true_and, hany, hap, idx_refW _ _ _ hkl, hg, hw2, iL_set, from1_ints, WB47, snap_refW _ _ _ hsl.symm, WVH_eq ih, hc, wrap_n1 k (by omega)]
      congr 1
      symm
      exact List.any_eq_true.2 ⟨k, List.mem_range.2 hkl, by rw [hfk, hzx', hany, hc]; rfl⟩
end Go.Ab.T
end

section
namespace Go.Ab.T
set_option maxRecDepth 8000
set_option maxHeartbeats 4000000
theorem szR_iff {n : Int} (h : szR n = true) : 1 ≤ n ∧ n ≤ 12 := by
  unfold szR inR at h
  rw [Bool.and_eq_true, decide_eq_true_eq, decide_eq_true_eq] at h; exact h
theorem okH_rows {h : Hl} (ho : okH h = true) : (∀ x ∈ h.rows, 0 ≤ x ∧ x ≤ 12) ∧ h.rows ≠ [] ∧ h.rows.length ≤ 6 := by
  unfold okH at ho
  simp only [Bool.and_eq_true] at ho
  obtain ⟨h1, h2, h3⟩ := ho
  unfold inR at h1
  rw [Bool.and_eq_true, decide_eq_true_eq, decide_eq_true_eq] at h1
  refine ⟨fun x hx => ?_, fun e => by rw [e] at h1; simp at h1, by omega⟩
  have := szR_iff (List.all_eq_true.1 h2 x hx)
  omega
theorem okZ_all {zs : List Int} (ho : okZ zs = true) : (∀ z ∈ zs, 0 ≤ z ∧ z ≤ 12) ∧ zs.length ≤ 12 := by
  unfold okZ at ho
  rw [Bool.and_eq_true, decide_eq_true_eq] at ho
  refine ⟨fun z hz => ?_, ho.2⟩
  have := szR_iff (List.all_eq_true.1 ho.1 z hz)
  omega
/-- What the program answers, and what the document says. -/
def packA (h : Hl) (zs : List Int) : List Int × Int :=
  if okH h = true then (if okZ zs = true then (if okPk h.rows zs = true then ((rowsPk h.rows zs).map fun n : Nat => (n : Int), 0) else ([], 3)) else ([], 1)) else ([], 40)
theorem Pack_ok (h : Hl) (zs : List Int) (h7 : okZ zs = true → zs.length ≤ 7) : RV ft 27 [encH h, encIs zs] (.tup [encIs (packA h zs).1, I64 (packA h zs).2]) := by
  refine RV_of ft27 rfl ?_
  simp only [c27, r27]
  unfold packA
  cases h1 : okH h
  case false =>
    simp only [go_sem, Nat.reduceEqDiff, Nat.reduceAdd, Nat.reduceLT, Nat.reduceLeDiff, reduceIte, WB44, WVH_eq (validHall_ok h), true_and, h1]
    rfl
  have hd : decide ((zs.length : Int) > 12) = !decide (zs.length ≤ 12) := by
    rw [Bool.eq_iff_iff, decide_eq_true_eq, Bool.not_eq_true', decide_eq_false_iff_not]; omega
  cases h2 : okZ zs
  case false =>
    unfold okZ at h2
    cases h3 : decide (zs.length ≤ 12)
    · simp only [go_sem, Nat.reduceEqDiff, Nat.reduceAdd, Nat.reduceLT, Nat.reduceLeDiff, reduceIte, WB44, WVH_eq (validHall_ok h), true_and, h1, hd, h3, Bool.not_false]
      rfl
    · have hz : zs.length < 1073741824 := by have := of_decide_eq_true h3; omega
      rw [h3, Bool.and_true] at h2
      simp only [go_sem, Nat.reduceEqDiff, Nat.reduceAdd, Nat.reduceLT, Nat.reduceLeDiff, reduceIte, WB44, WVH_eq (validHall_ok h), true_and, h1, hd, h3, Bool.not_true, WB45, WVH_eq (allSizes_ok zs hz), h2]
      rfl
  obtain ⟨hx, hn, hr6⟩ := okH_rows h1
  have hv : PV h.rows zs := ⟨hx, (okZ_all h2).1, by omega, h7 h2⟩
  have hp := pack_ok hv
  have hz : zs.length < 1073741824 := by have := (okZ_all h2).2; omega
  have h4 : zs.all szR = true := by unfold okZ at h2; rw [Bool.and_eq_true] at h2; exact h2.1
  have h5 : decide (zs.length ≤ 12) = true := by unfold okZ at h2; rw [Bool.and_eq_true] at h2; exact h2.2
  unfold packV at hp
  cases h3 : okPk h.rows zs
  · rw [h3] at hp
    simp only [go_sem, Nat.reduceEqDiff, Nat.reduceAdd, Nat.reduceLT, Nat.reduceLeDiff, reduceIte, WB44, WVH_eq (validHall_ok h), true_and, h1, hd, h5, Bool.not_true, WB45, WVH_eq (allSizes_ok zs hz), h4, WB46, WVH_eq hp]
    rfl
  · rw [h3] at hp
    simp only [go_sem, Nat.reduceEqDiff, Nat.reduceAdd, Nat.reduceLT, Nat.reduceLeDiff, reduceIte, WB44, WVH_eq (validHall_ok h), true_and, h1, hd, h5, Bool.not_true, WB45, WVH_eq (allSizes_ok zs hz), h4, WB46, WVH_eq hp]
theorem CheckPack_ok (h : Hl) (zs : List Int) (hl : h.rows.length < 9223372036854775808) (hz : zs.length < 9223372036854775808) (h7 : okZ zs = true → zs.length ≤ 7) : RV ft 30 [encH h, encIs zs] (I64 (packA h zs).2) := by
  refine RV_of ft30 rfl ?_
  simp only [c30, r30]
  unfold packA
  cases h1 : okH h
  case false =>
    simp only [go_sem, Nat.reduceEqDiff, Nat.reduceAdd, Nat.reduceLT, Nat.reduceLeDiff, reduceIte, WB25, WVH_eq (IsHall_ok h hl), true_and, h1]
    rfl
  cases h2 : okZ zs
  case false =>
    simp only [go_sem, Nat.reduceEqDiff, Nat.reduceAdd, Nat.reduceLT, Nat.reduceLeDiff, reduceIte, WB25, WVH_eq (IsHall_ok h hl), true_and, h1, WB26, WVH_eq (AreSizes_ok zs hz), h2]
    rfl
  obtain ⟨hx, hn, hr6⟩ := okH_rows h1
  have hzz := (okZ_all h2).1
  have hc := canPack_ok zs h.rows hn (by omega) (h7 h2) hx hzz
  rw [can_ok (fun z hz => (hzz z hz).1) (h7 h2) (fun x hx' => (hx x hx').1) hn] at hc
  cases h3 : okPk h.rows zs
  · rw [h3] at hc
    simp only [go_sem, Nat.reduceEqDiff, Nat.reduceAdd, Nat.reduceLT, Nat.reduceLeDiff, reduceIte, WB25, WVH_eq (IsHall_ok h hl), true_and, h1, WB26, WVH_eq (AreSizes_ok zs hz), h2, WB47, WVH_eq hc]
    rfl
  · rw [h3] at hc
    simp only [go_sem, Nat.reduceEqDiff, Nat.reduceAdd, Nat.reduceLT, Nat.reduceLeDiff, reduceIte, WB25, WVH_eq (IsHall_ok h hl), true_and, h1, WB26, WVH_eq (AreSizes_ok zs hz), h2, WB47, WVH_eq hc]
/-! ### The laws -/
theorem SeatsPacked_run (h : Hl) (zs rs : List Int) (hl : h.rows.length < 9223372036854775808) (hz : zs.length < 9223372036854775808) : RV ft 9 [encH h, encIs zs, encIs rs] (.bool true) := by
  refine RV_of ft9 rfl ?_
  simp only [c9, r9]
  cases h1 : okH h
  case false => simp only [go_sem, Nat.reduceEqDiff, Nat.reduceAdd, Nat.reduceLT, Nat.reduceLeDiff, reduceIte, WB25, WVH_eq (IsHall_ok h hl), true_and, h1, WB13, WVH_eq works_ok]
  cases h2 : okZ zs
  case false => simp only [go_sem, Nat.reduceEqDiff, Nat.reduceAdd, Nat.reduceLT, Nat.reduceLeDiff, reduceIte, WB25, WVH_eq (IsHall_ok h hl), true_and, h1, WB26, WVH_eq (AreSizes_ok zs hz), h2, WB13, WVH_eq works_ok]
  cases h3 : decide ((zs.length : Int) > 7)
  case true => simp only [go_sem, Nat.reduceEqDiff, Nat.reduceAdd, Nat.reduceLT, Nat.reduceLeDiff, reduceIte, WB25, WVH_eq (IsHall_ok h hl), true_and, h1, WB26, WVH_eq (AreSizes_ok zs hz), h2, h3, WB13, WVH_eq works_ok]
  cases h4 : decide ((rs.length : Int) > 20)
  case true => simp only [go_sem, Nat.reduceEqDiff, Nat.reduceAdd, Nat.reduceLT, Nat.reduceLeDiff, reduceIte, WB25, WVH_eq (IsHall_ok h hl), true_and, h1, WB26, WVH_eq (AreSizes_ok zs hz), h2, h3, h4, WB13, WVH_eq works_ok]
  have h7 : zs.length ≤ 7 := by have := of_decide_eq_false h3; omega
  have hr : rs.length < 1073741824 := by have := of_decide_eq_false h4; omega
  obtain ⟨hx, hn, hr6⟩ := okH_rows h1
  have hzz := (okZ_all h2).1
  have hv : PV h.rows zs := ⟨hx, hzz, by omega, h7⟩
  have hP := Pack_ok h zs fun _ => h7
  unfold packA at hP
  rw [if_pos h1, if_pos h2] at hP
  have n3 : ((3 : Int) != 0) = true := rfl
  have e3 : ((3 : Int) == 3) = true := rfl
  have n0 : ((0 : Int) != 0) = false := rfl
  cases h5 : okPk h.rows zs
  · rw [h5] at hP
    simp only [Bool.false_eq_true, if_false, if_true] at hP
    have hno : pkF h.rows zs rs = false := by
      cases hp : pkF h.rows zs rs
      · rfl
      · have := pack_some (fun z hz => (hzz z hz).1) h7 (fun x hx' => (hx x hx').1) hn hp
        rw [h5] at this; cases this
    have hk := Packed_ok (rs := rs) hv hn hr
    rw [hno] at hk
    simp only [go_sem, Nat.reduceEqDiff, Nat.reduceAdd, Nat.reduceLT, Nat.reduceLeDiff, reduceIte, WB25, WVH_eq (IsHall_ok h hl), true_and, h1, WB26, WVH_eq (AreSizes_ok zs hz), h2, h3, h4, WB27, WVH_eq hP, WB28, WVH_eq hk, n3, e3, n0, WB13, WVH_eq works_ok]
  · rw [h5] at hP
    simp only [Bool.false_eq_true, if_false, if_true] at hP
    have hyes := pack_fits (fun z hz => (hzz z hz).1) h7 (fun x hx' => (hx x hx').1) hn h5
    have hlr : ((rowsPk h.rows zs).map fun n : Nat => (n : Int)).length < 1073741824 := by
      have := ((pk_loads zs _ h.rows (fun z hz => (hzz z hz).1) (fun x hx' => (hx x hx').1)).1 hyes).1
      omega
    have hk := Packed_ok hv hn hlr
    rw [hyes] at hk
    simp only [go_sem, Nat.reduceEqDiff, Nat.reduceAdd, Nat.reduceLT, Nat.reduceLeDiff, reduceIte, WB25, WVH_eq (IsHall_ok h hl), true_and, h1, WB26, WVH_eq (AreSizes_ok zs hz), h2, h3, h4, WB27, WVH_eq hP, WB28, WVH_eq hk, n3, e3, n0, WB13, WVH_eq works_ok]
theorem app_ints (bl : List Blk) (tk : List (Nat × Nat)) (l : List Int) (hl : l.length ≤ 1000) : ∃ w tk', appendAt ⟨bl, tk⟩ false (.sl [] .tight) (encIs l) 3 1 8 = some (.sl (iL l) w, ⟨bl, tk'⟩) := by
  cases l with
  | nil => exact ⟨_, _, rfl⟩
  | cons x r =>
    have h1 : hdSz ((x :: r).map I64) 1 = true := rfl
    have h2 : (x :: r).length * (8 + 1) ≤ limit := by unfold limit; omega
    refine ⟨.at tk.length, tk ++ [((x :: r).length, 3)], ?_⟩
    unfold encIs
    simp only [appendAt, Mem.elems, h1, List.length_map, List.length_nil, Nat.zero_add]
    rw [if_neg (by simp), if_pos ⟨h2, rfl⟩]
    simp [appTk, iL]
theorem app_calls (m : Mem) : appendAt m false (.sl [] .tight) (.sl [] .unk) 44 5 40 = some (.sl [] .tight, m) := by
  cases m; rfl
theorem snap_iL (m : Mem) (q : Nat) (l : List Int) (w : Tk) : snap m (q + 2) (.sl (iL l) w) = encIs l := by
  show AV.sl ((iL l).map (Ab.snap m (q + 1))) .unk = _
  unfold iL encIs
  rw [List.map_map]; rfl
theorem hot_iL (q : Nat) (l : List Int) (w : Tk) : hot (q + 2) (.sl (iL l) w) = false := hotIs q l
theorem copied_ok (h : Hl) (hl : h.rows.length ≤ 1000) : RV ft 29 [encH h, .sl [] .unk] (.tup [encH h, .sl [] .unk]) := by
  refine RV_of ft29 rfl ?_
  simp only [c29, r29]
  obtain ⟨w, tk', ha⟩ := app_ints [.live [encH h] 2, .live [.agg [.sl [] .tight, I64 0]] 2] [] h.rows hl
  have hw : ∀ v, writeCells (encH h) 0 [v] = some (.agg [v, I64 h.hold]) := fun _ => rfl
  have hp : ∀ (a b c : Nat) (es : List AV) (tk : Tk), apart (.ptr a b c) (.sl es tk) = true := fun _ _ _ _ _ => rfl
  simp only [go_sem, Nat.reduceEqDiff, Nat.reduceAdd, Nat.reduceLT, Nat.reduceLeDiff, reduceIte, ha, hw, app_calls, hp]
  unfold iL encH encIs
  rw [List.map_map]; rfl
theorem packA_err {h : Hl} {zs : List Int} (he : ((packA h zs).2 != 0) = true) : (packA h zs).1 = [] := by
  unfold packA at he ⊢
  cases h1 : okH h
  · rfl
  cases h2 : okZ zs
  · rfl
  cases h3 : okPk h.rows zs
  · rfl
  · rw [h1, h2, h3] at he; cases he
theorem packA_fits {h : Hl} {zs : List Int} (h7 : okZ zs = true → zs.length ≤ 7) (he : ((packA h zs).2 != 0) = false) : RV ft 28 [encH h, encIs zs, encIs (packA h zs).1] (.bool true) := by
  unfold packA at he ⊢
  cases h1 : okH h
  · rw [h1] at he; cases he
  cases h2 : okZ zs
  · rw [h1, h2] at he; cases he
  cases h3 : okPk h.rows zs
  · rw [h1, h2, h3] at he; cases he
  obtain ⟨hx, hn, hr6⟩ := okH_rows h1
  have hzz := (okZ_all h2).1
  have hyes := pack_fits (fun z hz => (hzz z hz).1) (h7 h2) (fun x hx' => (hx x hx').1) hn h3
  have hl := ((pk_loads zs _ h.rows (fun z hz => (hzz z hz).1) (fun x hx' => (hx x hx').1)).1 hyes).1
  have hk := Packed_ok (h := h) ⟨hx, hzz, by omega, h7 h2⟩ hn (rs := (rowsPk h.rows zs).map fun n : Nat => (n : Int)) (by have := h7 h2; omega)
  rw [hyes] at hk
  exact hk
theorem SeatsPacks_key (h : Hl) (zs : List Int) (hl : h.rows.length < 9223372036854775808) (hz : zs.length < 9223372036854775808) (h1 : decide ((h.rows.length : Int) > 30) = false) (h2 : decide ((zs.length : Int) > 30) = false) (h7 : okZ zs = true → zs.length ≤ 7) (h3 : decide ((zs.length : Int) > 7) = true → decide ((zs.length : Int) ≤ 12) = false) : RV ft 10 [encH h, encIs zs] (.bool true) := by
  have h30 := of_decide_eq_false h1
  have z30 := of_decide_eq_false h2
  have hc := copied_ok h (by omega)
  have hP := Pack_ok h zs h7
  have hC := CheckPack_ok h zs hl hz h7
  have hp : ∀ (a b c : Nat) (es : List AV) (tk : Tk), apart (.ptr a b c) (.sl es tk) = true := fun _ _ _ _ _ => rfl
  refine RV_of ft10 rfl ?_
  simp only [c10, r10]
  obtain ⟨w, tk', ha⟩ := app_ints [.live [encH h] 2, .live [encH h] 2] [] zs (by omega)
  have hee : ((packA h zs).2 != (packA h zs).2) = false := by simp
  cases h5 : ((packA h zs).2 != 0)
  case true =>
    have he := packA_err h5
    rw [he] at hP
    cases h4 : decide ((zs.length : Int) > 7)
    case' true => have h6 := h3 h4
    case' false => have h6 : True := trivial
    all_goals
      simp only [go_sem, Nat.reduceEqDiff, Nat.reduceAdd, Nat.reduceLT, Nat.reduceLeDiff, reduceIte, h1, h2, h4, h6, WB29, WVH_eq hc, true_and, ha, hp, snap_iL, hot_iL, WB27, WVH_eq hP, WB30, WVH_eq hC, hee, h5, show decide ((0 : Int) < ((0 : Nat) : Int)) = false from rfl, WB13, WVH_eq works_ok]
  have hk := packA_fits h7 h5
  cases h4 : decide ((zs.length : Int) > 7)
  case' true => have h6 := h3 h4
  case' false => have h6 : True := trivial
  all_goals
    simp only [go_sem, Nat.reduceEqDiff, Nat.reduceAdd, Nat.reduceLT, Nat.reduceLeDiff, reduceIte, h1, h2, h4, h6, WB29, WVH_eq hc, true_and, ha, hp, snap_iL, hot_iL, WB27, WVH_eq hP, WB30, WVH_eq hC, hee, h5, WB28, WVH_eq hk, WB13, WVH_eq works_ok]
theorem SeatsPacks_run (h : Hl) (zs : List Int) (hl : h.rows.length < 9223372036854775808) (hz : zs.length < 9223372036854775808) : RV ft 10 [encH h, encIs zs] (.bool true) := by
  cases h1 : decide ((h.rows.length : Int) > 30)
  case true =>
    refine RV_of ft10 rfl ?_
    simp only [c10, r10]
    simp only [go_sem, Nat.reduceEqDiff, Nat.reduceAdd, Nat.reduceLT, Nat.reduceLeDiff, reduceIte, h1, WB13, WVH_eq works_ok]
  cases h2 : decide ((zs.length : Int) > 30)
  case true =>
    refine RV_of ft10 rfl ?_
    simp only [c10, r10]
    simp only [go_sem, Nat.reduceEqDiff, Nat.reduceAdd, Nat.reduceLT, Nat.reduceLeDiff, reduceIte, h1, h2, WB13, WVH_eq works_ok]
  cases h3 : decide ((zs.length : Int) > 7)
  · refine SeatsPacks_key h zs hl hz h1 h2 (fun _ => by have := of_decide_eq_false h3; omega) fun h => ?_
    rw [h3] at h; cases h
  cases h4 : decide ((zs.length : Int) ≤ 12)
  · exact SeatsPacks_key h zs hl hz h1 h2 (fun hz => by have := (okZ_all hz).2; have := of_decide_eq_false h4; omega) fun _ => h4
  refine RV_of ft10 rfl ?_
  simp only [c10, r10]
  simp only [go_sem, Nat.reduceEqDiff, Nat.reduceAdd, Nat.reduceLT, Nat.reduceLeDiff, reduceIte, h1, h2, h3, h4, WB13, WVH_eq works_ok]
end Go.Ab.T
end
