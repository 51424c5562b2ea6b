/-
 A part of the proofs over this seat.
 (The texts KwK30 KwK31, one behind the other.)
-/
import Derived.Test.YtikfmbopfconkaaP11
set_option linter.unusedSimpArgs false
set_option linter.unusedVariables false
set_option linter.unusedSectionVars false
section
namespace Go.Ab.T
set_option maxRecDepth 8000
set_option maxHeartbeats 4000000
def canB (kl : List Nat) (s : Nat) : Bool := kl.any fun k => decide (andn s k = 0)
def stepR (kl : List Nat) (best : List Nat) (s : Nat) : List Nat := if (!canB kl s && (decide (best.length = 0) || beforeL (numsN s) best)) = true then numsN s else best
def keptL (w : Wk) : List Nat := keptS w [] (progsR w.films.length w.slots.toNat [])
theorem keptL_mem {w : Wk} (hw : WV w) {x : Nat} : x ∈ keptL w ↔ ∃ p, progOK w p = true ∧ x = setP w p := by
 unfold keptL
 rw [keptS_mem]
 refine ⟨fun h => ?_, fun ⟨p, hp, h⟩ => .inr ⟨p, (allP hw).2 hp, h⟩⟩
 rcases h with h | ⟨p, hp, h⟩
 ·cases h
 ·exact ⟨p, (allP hw).1 hp, h⟩
theorem keptL_lt {w : Wk} (hw : WV w) {x : Nat} (h : x ∈ keptL w) : x < 256 := by
 obtain ⟨p, _, rfl⟩ := (keptL_mem hw).1 h
 exact Nat.lt_of_le_of_lt (setB_le _ _) (allD_lt hw)
theorem andn_zero {s k : Nat} (hs : s < 256) : andn s k = 0 ↔ ∀ n, s.testBit n = true → k.testBit n = true := by
 refine ⟨fun h n hn => ?_, fun h => Nat.eq_of_testBit_eq fun n => ?_⟩
 ·have h1 := andn_bit s k n (by omega)
  rw [h, Nat.zero_testBit, hn] at h1
  simpa using h1
 ·rw [andn_bit s k n (by omega), Nat.zero_testBit]
  cases hb : s.testBit n
  ·rfl
  ·rw [h n hb]; rfl
theorem can_eq {w : Wk} (hc : chkW w = 0) {s : Nat} (hs : s < 256) : canB (keptL w) s = (mostM s (bestsL w)).2 := by
 have hw := WV_of (chkW_ok hc).1
 have h1 : canB (keptL w) s = true ↔ ¬Bad w s := by
  unfold canB Bad
  rw [List.any_eq_true]
  refine ⟨fun ⟨k, hk, he⟩ hb => ?_, fun hb => ?_⟩
  ·obtain ⟨p, hp, rfl⟩ := (keptL_mem hw).1 hk
   exact hb p hp fun n hn => by rw [← setP_bit hw]; exact (andn_zero hs).1 (of_decide_eq_true he) n hn
  ·refine Classical.byContradiction fun hn => hb fun p hp hk => hn ⟨setP w p, (keptL_mem hw).2 ⟨p, hp, rfl⟩, decide_eq_true ((andn_zero hs).2 fun n hb => by rw [setP_bit hw]; exact hk n hb)⟩
 have h2 := bad_iff hc s
 cases h3 : (mostM s (bestsL w)).2
 ·cases h4 : canB (keptL w) s
  ·rfl
  ·exact absurd (h2.1 h3) (h1.1 h4)
 ·cases h4 : canB (keptL w) s
  ·exfalso
   have h5 : ¬Bad w s := fun hb => by rw [h2.2 hb] at h3; cases h3
   rw [h1.2 h5] at h4; cases h4
  ·rfl
theorem nums_tab : ∀ s : _root_.Fin 256, (decide (s.val = 0) || !(numsN s.val).isEmpty) = true := by decide +kernel
theorem nums_ne {s : Nat} (h0 : 1 ≤ s) (hs : s < 256) : (numsN s).isEmpty = false := by
 have := nums_tab ⟨s, hs⟩
 dsimp only at this
 rw [decide_eq_false (by omega), Bool.false_or] at this
 simpa using this
theorem step_eq {w : Wk} (hc : chkW w = 0) : ∀ (l : List Nat) (best : List Nat), (∀ s ∈ l, 1 ≤ s ∧ s < 256) → l.foldl (stepC (bestsL w)) (best, !best.isEmpty) = (l.foldl (stepR (keptL w)) best, !(l.foldl (stepR (keptL w)) best).isEmpty)
 | [], best, _ => rfl
 | s :: l, best, h => by
  have h1 := h s (by simp)
  have hl := fun t ht => h t (List.mem_cons_of_mem s ht)
  have hs : stepC (bestsL w) (best, !best.isEmpty) s = (stepR (keptL w) best s, !(stepR (keptL w) best s).isEmpty) := by
   unfold stepC stepR
   rw [can_eq hc h1.2]
   cases h2 : (mostM s (bestsL w)).2
   ·have he : decide (best.length = 0) = best.isEmpty := by cases best <;> rfl
    rw [he]
    simp only [Bool.false_eq_true, if_false, Bool.not_not, Bool.not_false, Bool.true_and]
    cases h3 : (best.isEmpty || beforeL (numsN s) best)
    ·rfl
    ·simp only [if_true]; rw [nums_ne h1.1 h1.2]; rfl
   ·rfl
  rw [List.foldl_cons, List.foldl_cons, hs]
  exact step_eq hc l _ hl
theorem clash_eq {w : Wk} (hc : chkW w = 0) : clashL (bestsL w) (allD w) = ((List.range' 1 (2 ^ w.deals.length - 1)).foldl (stepR (keptL w)) [], !((List.range' 1 (2 ^ w.deals.length - 1)).foldl (stepR (keptL w)) []).isEmpty) := by
 have hw := WV_of (chkW_ok hc).1
 have hD := hw.d
 have hfull := subs_full ⟨w.deals.length, by omega⟩
 dsimp only at hfull
 have hpos := Nat.two_pow_pos w.deals.length
 have h256 : 2 ^ w.deals.length ≤ 256 := Nat.pow_le_pow_right (show 0 < 2 by decide) hD
 unfold clashL
 rw [show subsN (allD w) = List.range (2 ^ w.deals.length) from hfull, List.range_eq_range']
 obtain ⟨n, hn⟩ : ∃ n, 2 ^ w.deals.length = n + 1 := ⟨2 ^ w.deals.length - 1, by omega⟩
 rw [hn, List.range'_succ, List.foldl_cons, show n + 1 - 1 = n by omega]
 have h0 : (mostM 0 (bestsL w)).2 = true := by
  cases h : (mostM 0 (bestsL w)).2
  ·have hp : progOK w (List.replicate w.slots.toNat (-1)) = true := (Part_iff hw).1 ⟨by simp, fun f hf => by rw [(List.mem_replicate.1 hf).2]; omega⟩
   exact absurd (fun n hn => by rw [Nat.zero_testBit] at hn; cases hn) ((bad_iff hc 0).1 h _ hp)
  ·rfl
 have hs0 : stepC (bestsL w) ([], false) 0 = ([], false) := by unfold stepC; rw [if_pos h0]
 rw [hs0]
 exact step_eq hc _ [] (fun s hs => by
  have := List.mem_range'_1.1 hs
  omega)
end Go.Ab.T
end

section
namespace Go.Ab.T
set_option maxRecDepth 8000
set_option maxHeartbeats 4000000
theorem VN.len {l : List Nat} {v : AV} (h : VN l v) (m : Mem) : lenAt m v = some (I64 l.length) := by
 rcases h with rfl | ⟨rfl, rfl⟩
 ·exact Ns_len m l
 ·rfl
theorem clashO_eq {w : Wk} (hc : chkW w = 0) : clashO w = (if ((List.range' 1 (2 ^ w.deals.length - 1)).foldl (stepR (keptL w)) []).length = 0 then ([], 3) else ((List.range' 1 (2 ^ w.deals.length - 1)).foldl (stepR (keptL w)) [], 0)) := by
 unfold clashO
 rw [if_pos hc, clash_eq hc]
 cases (List.range' 1 (2 ^ w.deals.length - 1)).foldl (stepR (keptL w)) [] <;> rfl
theorem ClashR_ok (w : Wk) : RV ft 25 [encW w] (.tup [encNs (clashO w).1, I64 (clashO w).2]) := by
 refine RV_of ft25 rfl ?_
 simp only [c25, r25]
 by_cases h0 : chkW w = 0
 case neg =>
  have n0 : (chkW w != 0) = true := by rw [bne, beq_eq_false_iff_ne.2 h0]; rfl
  have hcl : clashO w = ([], chkW w) := by unfold clashO; rw [if_neg h0]
  rw [hcl]
  simp only [go_sem, Nat.reduceEqDiff, Nat.reduceAdd, Nat.reduceLT, Nat.reduceLeDiff, reduceIte, WCells, WEta, FCells, FEta, DCells, DEta, cellsIs, solidIs, cellsFs, solidFs, cellsDs, solidDs, Bool.and_self, Is_len, Fs_len, Ds_len, true_and, snW, hotW, snD, hotD, snIs, hotIs, WB15, WVH_eq (CheckR_ok w), n0]
  rfl
 have hw := WV_of (chkW_ok h0).1
 have hD := hw.d
 have hK := keptR_ok w h0
 rw [show keptS w [] (progsR w.films.length w.slots.toNat []) = keptL w from rfl] at hK
 rw [clashO_eq h0]
 generalize hR : (List.range' 1 (2 ^ w.deals.length - 1)).foldl (stepR (keptL w)) [] = R
 have hkl : ∀ x ∈ keptL w, x < 256 := fun x hx => keptL_lt hw hx
 have hklen : (keptL w).length ≤ 390625 := Nat.le_trans (keptS_len w _ []) (by rw [List.length_nil, Nat.zero_add, progsR_len]; exact pow_le8 hw.f (by have := hw.s; omega))
 generalize keptL w = kl at *
 have hpos := Nat.two_pow_pos w.deals.length
 have h256 : 2 ^ w.deals.length ≤ 256 := Nat.pow_le_pow_right (show 0 < 2 by decide) hD
 have u1 : IntKind.u64.wrap (w.deals.length : Int) = (w.deals.length : Int) := wrap_u64 _ (by omega) (by omega)
 have s1 := shl_i64 w.deals.length hD
 have dn : decide ((w.deals.length : Int) < 0) = false := decide_eq_false (by omega)
 generalize hN : 2 ^ w.deals.length = N at *
 simp only [go_sem, Nat.reduceEqDiff, Nat.reduceAdd, Nat.reduceLT, Nat.reduceLeDiff, reduceIte, WCells, WEta, FCells, FEta, DCells, DEta, cellsIs, solidIs, cellsFs, solidFs, cellsDs, solidDs, Bool.and_self, Is_len, Fs_len, Ds_len, true_and, snW, hotW, snD, hotD, snIs, hotIs, WB15, WVH_eq (CheckR_ok w), h0, show ((0 : Int) != 0) = false from rfl, WB54, WVH_eq hK]
 refine WL_inv (α := Nat × Nat × List Nat) (fun q e mm => e 1 = .ptr 0 0 0 ∧ e 5 = encNs kl ∧ VN q.2.2 (e 6) ∧ e 7 = I64 q.1 ∧ q.1 + q.2.1 = N ∧ 1 ≤ q.1 ∧ (List.range' q.1 q.2.1).foldl (stepR kl) q.2.2 = R ∧ q.2.2.length ≤ 8 ∧ mm = ⟨[.live [encW w] 5], []⟩) (fun q => q.2.1) (1, N - 1, []) ?_ ?_
 ·simp only [go_sem, Nat.reduceEqDiff, Nat.reduceAdd, Nat.reduceLT, Nat.reduceLeDiff, reduceIte]
  (repeat' apply And.intro) <;> first | trivial | rfl | omega | exact hR | exact .inr ⟨rfl, rfl⟩
 rintro ⟨s, r, best⟩ e m ⟨g1, g5, hv, g7, hs, h1, hq, hb8, rfl⟩
 dsimp only at g7 hs h1 hq hb8 hv
 obtain ⟨v, g6⟩ : ∃ v, e 6 = v := ⟨_, rfl⟩
 rw [g6] at hv
 obtain ⟨c1, c2, c3⟩ := hv.cells
 have hz : ∀ n : Nat, ((n : Int) == 0) = decide (n = 0) := fun n => by rw [Bool.eq_iff_iff, beq_iff_eq, decide_eq_true_eq]; omega
 cases r with
 | zero =>
  have hd : decide ((s : Int) < (N : Int)) = false := decide_eq_false (by omega)
  have hq : best = R := hq
  subst hq
  by_cases hb : best.length = 0
  ·simp only [go_sem, Nat.reduceEqDiff, Nat.reduceAdd, Nat.reduceLT, Nat.reduceLeDiff, reduceIte, g1, g5, g6, g7, WCells, WEta, FCells, FEta, DCells, DEta, cellsIs, solidIs, cellsFs, solidFs, cellsDs, solidDs, Bool.and_self, Is_len, Fs_len, Ds_len, true_and, snW, hotW, snD, hotD, snIs, hotIs, u1, s1, dn, hd, hv.len, hz, decide_eq_true hb, if_pos hb]
   rfl
  ·simp only [go_sem, Nat.reduceEqDiff, Nat.reduceAdd, Nat.reduceLT, Nat.reduceLeDiff, reduceIte, g1, g5, g6, g7, WCells, WEta, FCells, FEta, DCells, DEta, cellsIs, solidIs, cellsFs, solidFs, cellsDs, solidDs, Bool.and_self, Is_len, Fs_len, Ds_len, true_and, snW, hotW, snD, hotD, snIs, hotIs, u1, s1, dn, hd, hv.len, hz, decide_eq_false hb, if_neg hb, hv.snap]
 | succ r =>
  have hd : decide ((s : Int) < (N : Int)) = true := decide_eq_true (by omega)
  have hs256 : s < 256 := by omega
  rw [List.range'_succ, List.foldl_cons] at hq
  simp only [go_sem, Nat.reduceEqDiff, Nat.reduceAdd, Nat.reduceLT, Nat.reduceLeDiff, reduceIte, g1, g5, g6, g7, WCells, WEta, FCells, FEta, DCells, DEta, cellsIs, solidIs, cellsFs, solidFs, cellsDs, solidDs, Bool.and_self, Is_len, Fs_len, Ds_len, true_and, snW, hotW, snD, hotD, snIs, hotIs, u1, s1, dn, hd]
  refine WL_inv (α := Nat × List Nat × Bool) (fun q e mm => e 1 = .ptr 0 0 0 ∧ e 5 = encNs kl ∧ e 6 = v ∧ e 7 = I64 s ∧ e 8 = .bool q.2.2 ∧ e 9 = I64 q.1 ∧ kl.drop q.1 = q.2.1 ∧ (q.2.2 || canB q.2.1 s) = canB kl s ∧ mm = ⟨[.live [encW w] 5], []⟩) (fun q => q.2.1.length) (0, kl, false) ?_ ?_
  ·simp only [go_sem, Nat.reduceEqDiff, Nat.reduceAdd, Nat.reduceLT, Nat.reduceLeDiff, reduceIte, g1, g5, g6, g7]
   (repeat' apply And.intro) <;> first | trivial | rfl
  rintro ⟨k, u, c⟩ e m ⟨g1, g5, g6, g7, g8, g9, hdr, hca, rfl⟩
  dsimp only at g8 g9 hdr hca
  cases u with
  | cons x u =>
   obtain ⟨hk, hd2, hlt⟩ := drop_cons hdr
   have hx := hkl x (List.mem_of_getElem? hk)
   have s4 := andNot_i64 s x (by omega) (by omega)
   cases c with
   | true =>
    simp only [go_sem, Nat.reduceEqDiff, Nat.reduceAdd, Nat.reduceLT, Nat.reduceLeDiff, reduceIte, g1, g5, g6, g7, g8, g9, Ns_len, dec_lt hlt, wrap_n1 k (by omega)]
    refine Nx_of (k + 1, u, true) (by simp) ?_
    simp only [go_sem, Nat.reduceEqDiff, Nat.reduceAdd, Nat.reduceLT, Nat.reduceLeDiff, reduceIte, g1, g5, g6, g7]
    exact ⟨trivial, trivial, trivial, trivial, trivial, trivial, hd2, by rw [← hca]; rfl, trivial⟩
   | false =>
    simp only [go_sem, Nat.reduceEqDiff, Nat.reduceAdd, Nat.reduceLT, Nat.reduceLeDiff, reduceIte, g1, g5, g6, g7, g8, g9, Ns_len, dec_lt hlt, Ns_idx _ hk, s4, hz, wrap_n1 k (by omega)]
    refine Nx_of (k + 1, u, decide (andn s x = 0)) (by simp) ?_
    simp only [go_sem, Nat.reduceEqDiff, Nat.reduceAdd, Nat.reduceLT, Nat.reduceLeDiff, reduceIte, g1, g5, g6, g7]
    exact ⟨trivial, trivial, trivial, trivial, trivial, trivial, hd2, by rw [← hca]; rfl, trivial⟩
  | nil =>
   have hge := drop_nil hdr
   have hca : c = canB kl s := by rw [← hca]; simp [canB]
   have hel := elements_ok s hs256
   have hn8 := numsN_len hs256
   have hbe := beforeR_ok (numsN s) best hn8 hb8
   cases hc2 : canB kl s
   case true =>
    rw [hc2] at hca
    have hst : stepR kl best s = best := by unfold stepR; rw [hc2]; rfl
    rw [hst] at hq
    simp only [go_sem, Nat.reduceEqDiff, Nat.reduceAdd, Nat.reduceLT, Nat.reduceLeDiff, reduceIte, g1, g5, g6, g7, g8, g9, Ns_len, dec_ge hge, hca, WB55, WVH_eq hel, true_and, wrap_n1 s (by omega)]
    refine Nx_of (s + 1, r, best) (by simp) ?_
    simp only [go_sem, Nat.reduceEqDiff, Nat.reduceAdd, Nat.reduceLT, Nat.reduceLeDiff, reduceIte, g1, g5, g6]
    exact ⟨trivial, trivial, hv, trivial, (by first | trivial | omega), (by first | trivial | omega), hq, hb8, trivial⟩
   rw [hc2] at hca
   by_cases hb : best.length = 0
   ·have hst : stepR kl best s = numsN s := by unfold stepR; rw [hc2, decide_eq_true hb]; rfl
    rw [hst] at hq
    simp only [go_sem, Nat.reduceEqDiff, Nat.reduceAdd, Nat.reduceLT, Nat.reduceLeDiff, reduceIte, g1, g5, g6, g7, g8, g9, Ns_len, dec_ge hge, hca, WB55, WVH_eq hel, true_and, hv.len, hz, decide_eq_true hb, wrap_n1 s (by omega)]
    refine Nx_of (s + 1, r, numsN s) (by simp) ?_
    simp only [go_sem, Nat.reduceEqDiff, Nat.reduceAdd, Nat.reduceLT, Nat.reduceLeDiff, reduceIte, g1, g5]
    exact ⟨trivial, trivial, .inl rfl, trivial, (by first | trivial | omega), (by first | trivial | omega), hq, hn8, trivial⟩
   ·cases hbf : beforeL (numsN s) best
    ·have hst : stepR kl best s = best := by unfold stepR; rw [hc2, decide_eq_false hb, hbf]; rfl
     rw [hst] at hq
     simp only [go_sem, Nat.reduceEqDiff, Nat.reduceAdd, Nat.reduceLT, Nat.reduceLeDiff, reduceIte, g1, g5, g6, g7, g8, g9, Ns_len, dec_ge hge, hca, WB55, WVH_eq hel, hv.len, hz, decide_eq_false hb, WB56, Ns_sn, Ns_hot, hv.snap, hv.hot, WVH_eq hbe, true_and, hbf, wrap_n1 s (by omega)]
     refine Nx_of (s + 1, r, best) (by simp) ?_
     simp only [go_sem, Nat.reduceEqDiff, Nat.reduceAdd, Nat.reduceLT, Nat.reduceLeDiff, reduceIte, g1, g5, g6]
     exact ⟨trivial, trivial, hv, trivial, (by first | trivial | omega), (by first | trivial | omega), hq, hb8, trivial⟩
    ·have hst : stepR kl best s = numsN s := by unfold stepR; rw [hc2, decide_eq_false hb, hbf]; rfl
     rw [hst] at hq
     simp only [go_sem, Nat.reduceEqDiff, Nat.reduceAdd, Nat.reduceLT, Nat.reduceLeDiff, reduceIte, g1, g5, g6, g7, g8, g9, Ns_len, dec_ge hge, hca, WB55, WVH_eq hel, hv.len, hz, decide_eq_false hb, WB56, Ns_sn, Ns_hot, hv.snap, hv.hot, WVH_eq hbe, true_and, hbf, wrap_n1 s (by omega)]
     refine Nx_of (s + 1, r, numsN s) (by simp) ?_
     simp only [go_sem, Nat.reduceEqDiff, Nat.reduceAdd, Nat.reduceLT, Nat.reduceLeDiff, reduceIte, g1, g5]
     exact ⟨trivial, trivial, .inl rfl, trivial, (by first | trivial | omega), (by first | trivial | omega), hq, hn8, trivial⟩
/-! ### Without a deal -/
def withoutW (w : Wk) (d : Nat) : Wk := ⟨w.days, w.rooms, w.hours, w.films, w.deals.take d ++ w.deals.drop (d + 1)⟩
theorem appOwn_ok {es ys : List AV} {q : Tk} {v : AV} {bl : List Blk} {tk : List (Nat × Nat)} {n0 T sz bytes : Nat} (h : OV n0 es sz v bl) (hn : n0 ≤ bl.length) (hes : ∀ e ∈ es, e.cells.length = sz) (hs : ∀ e ∈ ys, e.cells.length = sz) (hl : (es.length + ys.length) * (bytes + 1) ≤ limit) :
  ∃ v' bl', appendAt ⟨bl, tk⟩ true v (.sl ys q) T sz bytes = some (v', ⟨bl', tk⟩) ∧ OV n0 (es ++ ys) sz v' bl' ∧ n0 ≤ bl'.length ∧ ∀ i, i < n0 → bl'[i]? = bl[i]? := by
 have h1 : hdSz ys sz = true := by
  cases ys with
  | nil => rfl
  | cons y r => simp [hdSz, hs y (by simp)]
 rcases h with ⟨rfl, rfl⟩ | ⟨hne, id, hid, rfl, hb⟩
 ·by_cases hy : ys = []
  ·subst hy
   refine ⟨.sl [] .tight, bl, ?_, .inl ⟨rfl, rfl⟩, hn, fun i hi => rfl⟩
   simp only [appendAt, Mem.elems, h1]
   rw [if_neg (by simp), if_pos ⟨hl, trivial⟩]; simp only [if_true]
  ·refine ⟨.ref bl.length 0 ys.length, bl ++ [.live ys sz], ?_, .inr ⟨by simpa using hy, bl.length, hn, by simp, by simp⟩, by simp; omega, fun i hi => List.getElem?_append_left (by omega)⟩
   simp only [appendAt, Mem.elems, h1]
   rw [if_neg (by simp), if_pos ⟨hl, rfl⟩]; simp only [if_true]; rw [if_neg hy]
   rfl
 ·have hlt := (List.getElem?_eq_some_iff.1 hb).1
  by_cases hy : ys = []
  ·subst hy
   refine ⟨.ref id 0 es.length, bl.set id (.live es sz), ?_, .inr ⟨by simp [hne], id, hid, by simp, by simp [hlt]⟩, by simp; exact hn, fun i hi => List.getElem?_set_ne (by omega)⟩
   simp only [appendAt, Mem.elems, hb]
   rw [if_neg (by simp [hdSz]), if_neg (by simp), if_pos (by simp)]
   simp
  ·have hyl : 0 < ys.length := List.length_pos_iff.2 hy
   refine ⟨.ref bl.length 0 (es.length + ys.length), bl.set id .dead ++ [.live (es ++ ys) sz], ?_, .inr ⟨by simp [hne], bl.length, hn, by simp, ?_⟩, by simp; omega, fun i hi => ?_⟩
   ·simp only [appendAt, Mem.elems, hb, h1]
    rw [if_neg (by simp), if_neg (by simp), if_neg (by omega), if_pos ⟨⟨trivial, trivial⟩, hl⟩]
   ·rw [List.getElem?_append_right (by simp)]; simp
   ·rw [List.getElem?_append_left (by simp; omega), List.getElem?_set_ne (by omega)]
theorem Without_ok (w : Wk) (hw : WV w) (d : Nat) (hd : d < w.deals.length) : RV ft 32 [encW w, I64 d] (encW (withoutW w d)) := by
 refine RV_of ft32 rfl ?_
 simp only [c32, r32]
 have hD := hw.d
 have hCo := Copy_ok w hw.small
 have hsl1 : ∀ m : Mem, sliceAt m (encDs w.deals) none (some (I64 d)) 8 = some (.sl ((w.deals.take d).map encD) .unk) := fun m => by
  unfold encDs
  rw [sliceAt_sl, hdSz_map' encD 8 w.deals fun x => rfl, if_pos rfl, bounds_ns, if_pos ⟨by omega, by omega, by simp; omega⟩]
  simp [List.map_take]
 have hsl2 : ∀ m : Mem, sliceAt m (encDs w.deals) (some (I64 (d + 1 : Nat))) none 8 = some (.sl ((w.deals.drop (d + 1)).map encD) .unk) := fun m => by
  unfold encDs
  rw [sliceAt_sl, hdSz_map' encD 8 w.deals fun x => rfl, if_pos rfl, bounds_sn, if_pos ⟨by omega, by simp; omega, Int.le_refl _⟩]
  simp only [Option.map_some, Int.toNat_natCast, List.length_map, List.map_drop]
  rw [List.take_of_length_le (by simp)]
 obtain ⟨v1, x1, a1, o1⟩ := app0_ok (es := (w.deals.take d).map encD) (q := .unk) (bl := [.live [encW w] 5, .live [.agg [.int .i64 0, .sl [] .tight, .int .i64 0, .sl [] .tight, .sl [] .tight]] 5, .live [encW w] 5]) (tk := []) (n0 := 3) (sz := 8) (bytes := 64) (Nat.le_refl 3) (fun e he => by obtain ⟨z, _, rfl⟩ := List.mem_map.1 he; rfl) (by rw [List.length_map, List.length_take]; simp only [limit]; omega)
 obtain ⟨v2, b2, a2, o2, hl2, hk2⟩ := appOwn_ok (q := .unk) (T := 47) (bytes := 64) (tk := []) (ys := (w.deals.drop (d + 1)).map encD) o1 (by simp) (fun e he => by obtain ⟨z, _, rfl⟩ := List.mem_map.1 he; rfl) (fun e he => by obtain ⟨z, _, rfl⟩ := List.mem_map.1 he; rfl) (by rw [List.length_map, List.length_map, List.length_take, List.length_drop]; simp only [limit]; omega)
 have a2' : appendAt ⟨.live [encW w] 5 :: .live [.agg [.int .i64 0, .sl [] .tight, .int .i64 0, .sl [] .tight, .sl [] .tight]] 5 :: .live [encW w] 5 :: x1, []⟩ true v1 (.sl ((w.deals.drop (d + 1)).map encD) .unk) 47 8 64 = some (v2, ⟨b2, []⟩) := a2
 obtain ⟨c1, c2, c3⟩ := o2.cells
 have wc : writeCells (encW w) 4 [v2] = some (.agg [I64 w.days, encIs w.rooms, I64 w.hours, encFs w.films, v2]) := rfl
 have k0 : b2[0]? = some (.live [encW w] 5) := by rw [hk2 0 (by omega)]; rfl
 have k1 : b2[1]? = some (.live [.agg [.int .i64 0, .sl [] .tight, .int .i64 0, .sl [] .tight, .sl [] .tight]] 5) := by rw [hk2 1 (by omega)]; rfl
 have k2 : b2[2]? = some (.live [encW w] 5) := by rw [hk2 2 (by omega)]; rfl
 have w1 : IntKind.i64.wrap ((d : Int) + 1) = ((d + 1 : Nat) : Int) := wrap_n1 d (by omega)
 have l2 := (List.getElem?_eq_some_iff.1 k2).1
 have k12 : ∀ b : Blk, (b2.set 2 b)[1]? = some (.live [.agg [.int .i64 0, .sl [] .tight, .int .i64 0, .sl [] .tight, .sl [] .tight]] 5) := fun b => by rw [List.getElem?_set_ne (by decide)]; exact k1
 have k22 : ∀ b : Blk, (b2.set 2 b)[2]? = some b := fun b => List.getElem?_set_self l2
 have k13 : ∀ b c : Blk, ((b2.set 2 b).set 1 c)[1]? = some c := fun b c => List.getElem?_set_self (by rw [List.length_set]; omega)
 simp only [go_sem, Nat.reduceEqDiff, Nat.reduceAdd, Nat.reduceLT, Nat.reduceLeDiff, reduceIte, WCells, WEta, FCells, FEta, DCells, DEta, cellsIs, solidIs, cellsFs, solidFs, cellsDs, solidDs, Bool.and_self, Is_len, Fs_len, Ds_len, true_and, snW, hotW, snD, hotD, snIs, hotIs, WFH_eq ft13, WVH_eq hCo, hsl1, hsl2, w1, a1, a2', c1, c2, k0, k1, k2, wc, k12, k22, k13]
 have ho := (o2.set (id := 2) (b := .live [.agg [I64 w.days, encIs w.rooms, I64 w.hours, encFs w.films, v2]] 5) (es2 := []) (sz2 := 0) (.inl (by decide))).set (id := 1) (b := .live [.agg [I64 w.days, encIs w.rooms, I64 w.hours, encFs w.films, v2]] 5) (es2 := []) (sz2 := 0) (.inl (by decide))
 rw [ho.snap, snFs, ← List.map_append, List.map_map, show ∀ m : Mem, snap m 7 ∘ encD = encD from fun m => funext fun x => snD m 5 x]
 rfl
/-! ### Weeks with the same rooms and hours -/
section
variable {w w' : Wk} (hr : w'.rooms = w.rooms) (hh : w'.hours = w.hours)
include hr hh
theorem slN_cg (day s h : Nat) : slN w' day s h = slN w day s h := by unfold slN; rw [hr, hh]
theorem scrN_cg (d : Dl) (sh day h : Nat) : ∀ (l : List Int) (k : Nat), scrN w' d sh day h l k = scrN w d sh day h l k
 | [], _ => rfl
 | x :: l, k => by rw [scrN, scrN, slN_cg hr hh, scrN_cg d sh day h l]
theorem hourN_cg (d : Dl) (sh day : Nat) : ∀ n h, hourN w' d sh day n h = hourN w d sh day n h
 | 0, _ => rfl
 | n + 1, h => by rw [hourN, hourN, scrN_cg hr hh, hr, hourN_cg d sh day n]
theorem hrsN_cg (d : Dl) (sh : Nat) : ∀ n day, hrsN w' d sh n day = hrsN w d sh n day
 | 0, _ => rfl
 | n + 1, day => by rw [hrsN, hrsN, hourN_cg hr hh, hrsN_cg d sh n]
theorem runsN_cg (sh day s : Nat) : ∀ n h, runsN w' sh day s n h = runsN w sh day s n h
 | 0, _ => rfl
 | n + 1, h => by rw [runsN, runsN, slN_cg hr hh, runsN_cg sh day s n]
theorem hasScrN_cg (d : Dl) (sh day : Nat) : ∀ (l : List Int) (k : Nat), hasScrN w' d sh day l k = hasScrN w d sh day l k
 | [], _ => rfl
 | x :: l, k => by rw [hasScrN, hasScrN, runsN_cg hr hh, hasScrN_cg d sh day l]
theorem cleanN_cg (d : Dl) (sh : Nat) : ∀ n day, cleanN w' d sh n day = cleanN w d sh n day
 | 0, _ => rfl
 | n + 1, day => by rw [cleanN, cleanN, hasScrN_cg hr hh, hr, cleanN_cg d sh n]
theorem keepsB_cg (d : Dl) (sh : Nat) : keepsB w' d sh = keepsB w d sh := by
 unfold keepsB hrs
 rw [hrsN_cg hr hh, cleanN_cg hr hh]
end
theorem keepsAll_deals {w : Wk} {p : List Int} : keepsAll w p ↔ ∀ d ∈ w.deals, keepsB w d (shownN d.film p 0 0) = true := by
 unfold keepsAll keepsAt
 refine ⟨fun h d hd => ?_, fun h n hn => ?_⟩
 ·obtain ⟨n, hn⟩ := List.getElem?_of_mem hd
  have := h n (List.getElem?_eq_some_iff.1 hn).1
  rw [hn] at this; exact this
 ·rw [List.getElem?_eq_getElem hn]; exact h _ (List.getElem_mem hn)
/-- A week with some of its deals, or others. -/
def dealsW (w : Wk) (l : List Dl) : Wk := ⟨w.days, w.rooms, w.hours, w.films, l⟩
theorem keeps_dealsW (w : Wk) (l : List Dl) (p : List Int) : keepsAll (dealsW w l) p ↔ ∀ d ∈ l, keepsB w d (shownN d.film p 0 0) = true := by
 rw [keepsAll_deals]
 exact ⟨fun h d hd => by rw [← keepsB_cg (w' := dealsW w l) (w := w) rfl rfl]; exact h d hd, fun h d hd => by rw [keepsB_cg (w' := dealsW w l) (w := w) rfl rfl]; exact h d hd⟩
theorem prog_dealsW (w : Wk) (l : List Dl) (p : List Int) : progOK (dealsW w l) p = progOK w p := rfl
theorem take_dealsW (w : Wk) (l : List Dl) (p : List Int) : takeS (dealsW w l) p = takeS w p := rfl
theorem chk_dealsW {w : Wk} (hc : chkW w = 0) {l : List Dl} (hl : l.length ≤ 8) (hd : ∀ d ∈ l, dlOK w d = true) : chkW (dealsW w l) = 0 := by
 obtain ⟨h1, h2⟩ := chkW_ok hc
 have h3 : wkOK (dealsW w l) = true := by
  unfold wkOK at h1 ⊢
  simp only [Bool.and_eq_true, decide_eq_true_eq] at h1 ⊢
  exact ⟨h1.1, h1.2.1, h1.2.2.1, by show (l.length : Int) ≤ 8; omega⟩
 unfold chkW
 rw [if_pos h3, if_pos (show (dealsW w l).deals.all (dlOK (dealsW w l)) = true from List.all_eq_true.2 hd)]
theorem sub_dealsW {w : Wk} (hc : chkW w = 0) {l : List Dl} (hl : l.length ≤ 8) (hd : ∀ d ∈ l, d ∈ w.deals) : chkW (dealsW w l) = 0 :=
 chk_dealsW hc hl fun d h => List.all_eq_true.1 (chkW_ok hc).2 d (hd d h)
theorem without_mem {w : Wk} {d : Nat} {x : Dl} (h : x ∈ (withoutW w d).deals) : x ∈ w.deals := by
 rcases List.mem_append.1 h with h | h
 ·exact List.mem_of_mem_take h
 ·exact List.mem_of_mem_drop h
theorem without_len {w : Wk} {d : Nat} (hd : d < w.deals.length) : (withoutW w d).deals.length + 1 = w.deals.length := by
 show (w.deals.take d ++ w.deals.drop (d + 1)).length + 1 = _
 simp; omega
theorem without_chk {w : Wk} (hc : chkW w = 0) {d : Nat} (hd : d < w.deals.length) : chkW (withoutW w d) = 0 := by
 have hD := (WV_of (chkW_ok hc).1).d
 have := without_len hd
 exact sub_dealsW hc (l := (withoutW w d).deals) (by omega) fun x hx => without_mem hx
/-- A program keeps all deals but one just if it keeps the set without it. -/
theorem without_keeps {w : Wk} (hw : WV w) {d : Nat} (hd : d < w.deals.length) (p : List Int) : keepsAll (withoutW w d) p ↔ keepsD w (andn (allD w) (2 ^ d)) p := by
 have h1 : keepsAll (withoutW w d) p ↔ ∀ x ∈ w.deals.take d ++ w.deals.drop (d + 1), keepsB w x (shownN x.film p 0 0) = true := keeps_dealsW w _ p
 rw [h1]
 have hbit : ∀ n, (andn (allD w) (2 ^ d)).testBit n = (decide (n < w.deals.length) && !decide (d = n)) := fun n => by
  rw [andn_bit (allD w) _ _ (Nat.lt_trans (allD_lt hw) (by decide)), Nat.testBit_two_pow, show (allD w).testBit n = decide (n < w.deals.length) from Nat.testBit_two_pow_sub_one _ _]
 unfold keepsD keepsAt
 refine ⟨fun h n hn => ?_, fun h x hx => ?_⟩
 ·rw [hbit, Bool.and_eq_true] at hn
  have hn1 := of_decide_eq_true hn.1
  have hn2 : d ≠ n := by simpa using hn.2
  rw [List.getElem?_eq_getElem hn1]
  refine h _ ?_
  rcases Nat.lt_or_ge n d with h3 | h3
  ·exact List.mem_append.2 (.inl (List.mem_iff_getElem?.2 ⟨n, by rw [List.getElem?_take, if_pos h3, List.getElem?_eq_getElem hn1]⟩))
  ·exact List.mem_append.2 (.inr (List.mem_iff_getElem?.2 ⟨n - (d + 1), by rw [List.getElem?_drop, show d + 1 + (n - (d + 1)) = n by omega, List.getElem?_eq_getElem hn1]⟩))
 ·have : ∃ n, n ≠ d ∧ w.deals[n]? = some x := by
   rcases List.mem_append.1 hx with hx | hx
   ·obtain ⟨n, hn⟩ := List.getElem?_of_mem hx
    rw [List.getElem?_take] at hn
    split at hn
    ·exact ⟨n, by omega, hn⟩
    ·cases hn
   ·obtain ⟨n, hn⟩ := List.getElem?_of_mem hx
    rw [List.getElem?_drop] at hn
    exact ⟨_, by omega, hn⟩
  obtain ⟨n, hnd, hn⟩ := this
  have := h n (by rw [hbit, decide_eq_true (List.getElem?_eq_some_iff.1 hn).1, decide_eq_false (fun e => hnd e.symm)]; rfl)
  rw [hn] at this; exact this
/-- With all deals but one: the greatest takings. -/
theorem without_most {w : Wk} (hc : chkW w = 0) {d : Nat} (hd : d < w.deals.length) (hk : ∃ p, progOK w p = true ∧ keepsAll w p) : IsMost (withoutW w d) (mostM (andn (allD w) (2 ^ d)) (bestsL w)).1 0 := by
 have hw := WV_of (chkW_ok hc).1
 obtain ⟨p0, hp0, hk0⟩ := hk
 have hk1 : keepsD w (andn (allD w) (2 ^ d)) p0 := fun n hn => (keepsAll_iff w p0).1 hk0 n (by
  rw [andn_bit (allD w) _ _ (Nat.lt_trans (allD_lt hw) (by decide)), Bool.and_eq_true] at hn; exact hn.1)
 rcases most_spec hc (andn (allD w) (2 ^ d)) with ⟨_, _, h3⟩ | ⟨_, ⟨p, h3, h4, h5⟩, h6⟩
 ·exact absurd hk1 (h3 p0 hp0)
 ·exact .inr ⟨rfl, ⟨p, h3, (without_keeps hw hd p).2 h4, h5⟩, fun q hq hkq => h6 q hq ((without_keeps hw hd q).1 hkq)⟩
theorem CostR_ok (w : Wk) (deal : Int) : RV ft 27 [encW w, I64 deal] (.tup [I64 (costO w deal).1, I64 (costO w deal).2]) := by
 refine RV_of ft27 rfl ?_
 simp only [c27, r27]
 by_cases h0 : chkW w = 0
 case neg =>
  have n0 : (chkW w != 0) = true := by rw [bne, beq_eq_false_iff_ne.2 h0]; rfl
  have hcl : costO w deal = (0, chkW w) := by unfold costO; rw [if_neg h0]
  rw [hcl]
  simp only [go_sem, Nat.reduceEqDiff, Nat.reduceAdd, Nat.reduceLT, Nat.reduceLeDiff, reduceIte, WCells, WEta, FCells, FEta, DCells, DEta, cellsIs, solidIs, cellsFs, solidFs, cellsDs, solidDs, Bool.and_self, Is_len, Fs_len, Ds_len, true_and, snW, hotW, snD, hotD, snIs, hotIs, WB15, WVH_eq (CheckR_ok w), n0]
 have hw := WV_of (chkW_ok h0).1
 have hD := hw.d
 have w1 : IntKind.i64.wrap ((w.deals.length : Int) - 1) = (w.deals.length : Int) - 1 := wrap_i64 _ (by omega) (by omega)
 have hM := mostR_ok w h0
 rw [show mostF w (-1) (progsR w.films.length w.slots.toNat []) = mostN w from rfl] at hM
 cases h1 : inR deal 0 ((w.deals.length : Int) - 1)
 ·have hcl : costO w deal = (0, 1) := by unfold costO; rw [if_pos h0, h1]; rfl
  rw [hcl]
  simp only [go_sem, Nat.reduceEqDiff, Nat.reduceAdd, Nat.reduceLT, Nat.reduceLeDiff, reduceIte, WCells, WEta, FCells, FEta, DCells, DEta, cellsIs, solidIs, cellsFs, solidFs, cellsDs, solidDs, Bool.and_self, Is_len, Fs_len, Ds_len, true_and, snW, hotW, snD, hotD, snIs, hotIs, WB15, WVH_eq (CheckR_ok w), h0, show ((0 : Int) != 0) = false from rfl, w1, WB38, WVH_eq (within_ok _ _ _), h1]
 have hd1 := inR_iff.1 h1
 have hdn : ((deal.toNat : Nat) : Int) = deal := Int.toNat_of_nonneg hd1.1
 have hdl : deal.toNat < w.deals.length := by omega
 have hms := most_spec h0 (allD w)
 rcases mostN_spec h0 with ⟨h2, h3⟩ | ⟨h2, h3⟩
 ·have hno : (mostM (allD w) (bestsL w)).2 = false := by
   rcases hms with ⟨e1, _⟩ | ⟨_, ⟨p, e2, e3, _⟩, _⟩
   ·exact e1
   ·exact absurd ((keepsAll_iff w p).2 e3) (h3 p e2)
  have hcl : costO w deal = (0, 3) := by unfold costO; rw [if_pos h0, h1, hno]; rfl
  rw [hcl]
  rw [h2] at hM
  simp only [go_sem, Nat.reduceEqDiff, Nat.reduceAdd, Nat.reduceLT, Nat.reduceLeDiff, reduceIte, WCells, WEta, FCells, FEta, DCells, DEta, cellsIs, solidIs, cellsFs, solidFs, cellsDs, solidDs, Bool.and_self, Is_len, Fs_len, Ds_len, true_and, snW, hotW, snD, hotD, snIs, hotIs, WB15, WVH_eq (CheckR_ok w), h0, show ((0 : Int) != 0) = false from rfl, w1, WB38, WVH_eq (within_ok _ _ _), h1, WB50, WVH_eq hM, show decide ((-1 : Int) < 0) = true from rfl]
 ·rcases h3 with ⟨e, _⟩ | ⟨_, ⟨p, h4, h5, h6⟩, h7⟩
  ·cases e
  have hyes : (mostM (allD w) (bestsL w)).2 = true ∧ (mostM (allD w) (bestsL w)).1 = mostN w := by
   rcases hms with ⟨_, _, e3⟩ | ⟨e1, ⟨q, e2, e3, e4⟩, e5⟩
   ·exact absurd ((keepsAll_iff w p).1 h5) (e3 p h4)
   ·refine ⟨e1, ?_⟩
    have e6 := e5 p h4 ((keepsAll_iff w p).1 h5)
    have e7 := h7 q e2 ((keepsAll_iff w q).2 e3)
    omega
  have hwo := without_most h0 hdl ⟨p, h4, h5⟩
  have hcw := without_chk h0 hdl
  have hM2 := mostR_ok _ hcw
  rw [show mostF (withoutW w deal.toNat) (-1) (progsR (withoutW w deal.toNat).films.length (withoutW w deal.toNat).slots.toNat []) = mostN (withoutW w deal.toNat) from rfl] at hM2
  have hm2 : mostN (withoutW w deal.toNat) = (mostM (andn (allD w) (2 ^ deal.toNat)) (bestsL w)).1 := by
   rcases mostN_spec hcw with ⟨_, e2⟩ | ⟨_, e2⟩
   ·exfalso
    rcases hwo with ⟨e, _⟩ | ⟨_, ⟨q, q1, q2, _⟩, _⟩
    ·cases e
    ·exact e2 q q1 q2
   ·exact (e2.uniq hwo).1
  have hWo := Without_ok w hw deal.toNat hdl
  rw [hdn] at hWo
  have hcl : costO w deal = (mostN (withoutW w deal.toNat) - mostN w, 0) := by unfold costO; rw [if_pos h0, h1, hyes.1, hyes.2, hm2]; rfl
  rw [hcl]
  have l1 := most_le hw (andn (allD w) (2 ^ deal.toNat))
  have l2 := most_le hw (allD w)
  have w2 : IntKind.i64.wrap (mostN (withoutW w deal.toNat) - mostN w) = mostN (withoutW w deal.toNat) - mostN w := wrap_i64 _ (by omega) (by omega)
  simp only [go_sem, Nat.reduceEqDiff, Nat.reduceAdd, Nat.reduceLT, Nat.reduceLeDiff, reduceIte, WCells, WEta, FCells, FEta, DCells, DEta, cellsIs, solidIs, cellsFs, solidFs, cellsDs, solidDs, Bool.and_self, Is_len, Fs_len, Ds_len, true_and, snW, hotW, snD, hotD, snIs, hotIs, WB15, WVH_eq (CheckR_ok w), h0, show ((0 : Int) != 0) = false from rfl, w1, WB38, WVH_eq (within_ok _ _ _), h1, WB50, WVH_eq hM, decide_eq_false (show ¬ mostN w < 0 by omega), WB32, WVH_eq hWo, WVH_eq hM2, w2]
theorem clash_len {w : Wk} : (clashO w).1.length < 1000 := by
 unfold clashO
 split
 ·rename_i hc
  split
  ·rename_i h
   have := Clash_spec hc
   unfold clashO at this
   rw [if_pos hc, if_pos h] at this
   rcases this with ⟨_, h2, _⟩ | ⟨_, s, hs, _, h2, _⟩
   ·rw [h2]; decide
   ·rw [h2]
    have h3 := numsN_len (mem_subsN.1 hs).1
    omega
  ·exact Nat.zero_lt_succ _
 ·exact Nat.zero_lt_succ _
theorem WeekMost_run (w : Wk) (hfl : FL w) (deal : Int) : RV ft 4 [encW w, I64 deal] (.bool true) := by
 refine RV_of ft4 rfl ?_
 simp only [c4, r4]
 cases hh : hugeB w
 case true => simp only [go_sem, Nat.reduceEqDiff, Nat.reduceAdd, Nat.reduceLT, Nat.reduceLeDiff, reduceIte, WCells, WEta, FCells, FEta, DCells, DEta, cellsIs, solidIs, cellsFs, solidFs, cellsDs, solidDs, Bool.and_self, Is_len, Fs_len, Ds_len, true_and, snW, hotW, snD, hotD, snIs, hotIs, WB11, WVH_eq (huge_ok w hfl), hh, WB12, WVH_eq works_ok]
 cases hf : farB w
 case true => simp only [go_sem, Nat.reduceEqDiff, Nat.reduceAdd, Nat.reduceLT, Nat.reduceLeDiff, reduceIte, WCells, WEta, FCells, FEta, DCells, DEta, cellsIs, solidIs, cellsFs, solidFs, cellsDs, solidDs, Bool.and_self, Is_len, Fs_len, Ds_len, true_and, snW, hotW, snD, hotD, snIs, hotIs, WB11, WVH_eq (huge_ok w hfl), hh, WB21, WVH_eq (Far_ok w), hf, WB12, WVH_eq works_ok]
 have hCo := Copy_ok w (Small_of hh)
 have hs := sameNs_ok (clashO w).1 (clashO w).1 rfl clash_len
 simp only [go_sem, Nat.reduceEqDiff, Nat.reduceAdd, Nat.reduceLT, Nat.reduceLeDiff, reduceIte, WCells, WEta, FCells, FEta, DCells, DEta, cellsIs, solidIs, cellsFs, solidFs, cellsDs, solidDs, Bool.and_self, Is_len, Fs_len, Ds_len, true_and, snW, hotW, snD, hotD, snIs, hotIs, WB11, WVH_eq (huge_ok w hfl), hh, WB21, WVH_eq (Far_ok w), hf, WFH_eq ft13, WVH_eq hCo, WB22, WVH_eq (Most_ok w), WB23, WVH_eq (MostR_ok w), WB24, WVH_eq (Clash_ok w), WB25, WVH_eq (ClashR_ok w), WB26, WVH_eq (Cost_ok w deal), WB27, WVH_eq (CostR_ok w deal), WB20, Ns_sn, Ns_hot, WVH_eq hs, WB12, WVH_eq works_ok]
theorem WeekBest_run (w : Wk) (hfl : FL w) : RV ft 5 [encW w] (.bool true) := by
 refine RV_of ft5 rfl ?_
 simp only [c5, r5]
 cases hh : hugeB w
 case true => simp only [go_sem, Nat.reduceEqDiff, Nat.reduceAdd, Nat.reduceLT, Nat.reduceLeDiff, reduceIte, WCells, WEta, FCells, FEta, DCells, DEta, cellsIs, solidIs, cellsFs, solidFs, cellsDs, solidDs, Bool.and_self, Is_len, Fs_len, Ds_len, true_and, snW, hotW, snD, hotD, snIs, hotIs, WB11, WVH_eq (huge_ok w hfl), hh, WB12, WVH_eq works_ok]
 cases hf : farB w
 case true => simp only [go_sem, Nat.reduceEqDiff, Nat.reduceAdd, Nat.reduceLT, Nat.reduceLeDiff, reduceIte, WCells, WEta, FCells, FEta, DCells, DEta, cellsIs, solidIs, cellsFs, solidFs, cellsDs, solidDs, Bool.and_self, Is_len, Fs_len, Ds_len, true_and, snW, hotW, snD, hotD, snIs, hotIs, WB11, WVH_eq (huge_ok w hfl), hh, WB21, WVH_eq (Far_ok w), hf, WB12, WVH_eq works_ok]
 have hCo := Copy_ok w (Small_of hh)
 by_cases hc : chkW w = 0
 case neg =>
  have hb : bestO w = (zeroP, chkW w) := by unfold bestO; rw [if_neg hc]
  have hB := Best_ok w (fun h => by rw [hb] at h; exact absurd h hc)
  have hM := MostR_ok w
  rw [hb] at hB hM
  rw [if_neg hc] at hB
  have n0 : (chkW w != 0) = true := by rw [bne, beq_eq_false_iff_ne.2 hc]; rfl
  simp only [go_sem, Nat.reduceEqDiff, Nat.reduceAdd, Nat.reduceLT, Nat.reduceLeDiff, reduceIte, WCells, WEta, FCells, FEta, DCells, DEta, cellsIs, solidIs, cellsFs, solidFs, cellsDs, solidDs, Bool.and_self, Is_len, Fs_len, Ds_len, true_and, snW, hotW, snD, hotD, snIs, hotIs, WB11, WVH_eq (huge_ok w hfl), hh, WB21, WVH_eq (Far_ok w), hf, WFH_eq ft13, WVH_eq hCo, WB28, WVH_eq hB, WB23, WVH_eq hM, show (chkW w != chkW w) = false by simp, n0, show decide ((0 : Int) < ((0 : Nat) : Int)) = false from rfl, WB12, WVH_eq works_ok]
 have hw := WV_of (chkW_ok hc).1
 have hM := MostR_ok w
 rcases Best_spec hc with ⟨h1, h2, h3⟩ | ⟨h1, p0, h2, h3, h4, h5⟩
 ·rw [h1] at hM
  simp only [go_sem, Nat.reduceEqDiff, Nat.reduceAdd, Nat.reduceLT, Nat.reduceLeDiff, reduceIte, WCells, WEta, FCells, FEta, DCells, DEta, cellsIs, solidIs, cellsFs, solidFs, cellsDs, solidDs, Bool.and_self, Is_len, Fs_len, Ds_len, true_and, snW, hotW, snD, hotD, snIs, hotIs, WB11, WVH_eq (huge_ok w hfl), hh, WB21, WVH_eq (Far_ok w), hf, WFH_eq ft13, WVH_eq hCo, WB28, WVH_eq h2, WB23, WVH_eq hM, show ((3 : Int) != 3) = false from rfl, show ((3 : Int) != 0) = true from rfl, show decide ((0 : Int) < ((0 : Nat) : Int)) = false from rfl, WB12, WVH_eq works_ok]
 ·rw [h1] at hM
  have hp0l := prog_len hw h3
  have hIP0 := IsProgram_ok w hw p0 (by omega)
  rw [h3] at hIP0
  have hB := BrokenR_ok w p0 (by omega)
  rw [chkP_of hc h3, if_pos rfl, broken_eq p0 w.deals 0 (chkW_DV hc), keepsAll_broken.1 h4] at hB
  have hT := TakingsR_ok w p0 (by omega)
  rw [chkP_of hc h3, if_pos rfl, takeR_eq hw h3, h5] at hT
  simp only [go_sem, Nat.reduceEqDiff, Nat.reduceAdd, Nat.reduceLT, Nat.reduceLeDiff, reduceIte, WCells, WEta, FCells, FEta, DCells, DEta, cellsIs, solidIs, cellsFs, solidFs, cellsDs, solidDs, Bool.and_self, Is_len, Fs_len, Ds_len, true_and, snW, hotW, snD, hotD, snIs, hotIs, WB11, WVH_eq (huge_ok w hfl), hh, WB21, WVH_eq (Far_ok w), hf, WFH_eq ft13, WVH_eq hCo, WB28, WVH_eq h2, WB23, WVH_eq hM, show ((0 : Int) != 0) = false from rfl, dec40, decide_eq_false (show ¬ 40 < p0.length by omega), WB29, WVH_eq hIP0, WB17, WVH_eq hB, WB19, WVH_eq hT, Ns_len, show (((0 : Nat) : Int) == 0) = true from rfl, beq_self_eq_true, WB12, WVH_eq works_ok]
end Go.Ab.T
end
