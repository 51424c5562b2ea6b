/-
  A part of the proofs over this seat.
  (The texts KrK10, one behind the other.)
-/
import Derived.Test.YtnkdfekbifcglaaP7
set_option linter.unusedSimpArgs false
set_option linter.unusedVariables false
set_option linter.unusedSectionVars false
section
namespace Go.Ab.T
set_option maxRecDepth 8000
set_option maxHeartbeats 1000000
/-! ### The first minute -/
def bs (p : Nat → Bool) : Nat → Nat → Nat → Nat
  | 0, i, _ => i
  | n + 1, i, j => if i < j then (if p ((i + j) / 2) = true then bs p n i ((i + j) / 2) else bs p n ((i + j) / 2 + 1) j) else i
theorem bs_end (p : Nat → Bool) (n i j : Nat) (h : ¬i < j) : bs p n i j = i := by
  cases n with
  | zero => rfl
  | succ n => exact if_neg h
theorem bs_step (p : Nat → Bool) (n i j : Nat) (h : i < j) : bs p (n + 1) i j = if p ((i + j) / 2) = true then bs p n i ((i + j) / 2) else bs p n ((i + j) / 2 + 1) j := if_pos h
theorem bs_spec {p : Nat → Bool} (hp : ∀ a b, a ≤ b → p a = true → p b = true) : ∀ (n i j : Nat), i ≤ j → j - i ≤ n → (∀ k, k < i → p k = false) → i ≤ bs p n i j ∧ bs p n i j ≤ j ∧ (∀ k, k < bs p n i j → p k = false) ∧ (bs p n i j < j → p (bs p n i j) = true)
  | 0, i, j, h, hn, hl => by
    obtain rfl : i = j := by omega
    exact ⟨Nat.le_refl _, Nat.le_refl _, hl, fun h => absurd h (Nat.lt_irrefl _)⟩
  | n + 1, i, j, h, hn, hl => by
    by_cases hij : i < j
    · rw [bs_step p n i j hij]
      cases hm : p ((i + j) / 2)
      · simp only [Bool.false_eq_true, if_false]
        have := bs_spec hp n ((i + j) / 2 + 1) j (by omega) (by omega) fun k hk => by
          cases hk2 : p k with
          | false => rfl
          | true => have := hp k ((i + j) / 2) (by omega) hk2; rw [hm] at this; cases this
        exact ⟨by omega, this.2⟩
      · simp only [if_true]
        obtain ⟨h1, h2, h3, h4⟩ := bs_spec hp n i ((i + j) / 2) (by omega) (by omega) hl
        refine ⟨h1, by omega, h3, fun _ => ?_⟩
        by_cases he : bs p n i ((i + j) / 2) < (i + j) / 2
        · exact h4 he
        · rw [show bs p n i ((i + j) / 2) = (i + j) / 2 by omega]; exact hm
    · rw [bs_end p (n + 1) i j hij]
      exact ⟨Nat.le_refl _, h, hl, fun h => absurd h hij⟩
theorem half64 (i j : Nat) (h : i + j < 100000000) : IntKind.i64.wrap ((i : Int) + (j : Int)) = ((i + j : Nat) : Int) ∧ IntKind.u64.wrap ((i + j : Nat) : Int) = ((i + j : Nat) : Int) ∧ Int.fdiv ((i + j : Nat) : Int) (2 ^ min (1 : Int).toNat 64) = (((i + j) / 2 : Nat) : Int) ∧ IntKind.i64.wrap (((i + j) / 2 : Nat) : Int) = (((i + j) / 2 : Nat) : Int) := by
  refine ⟨?_, wrap_u64 _ (by omega) (by omega), ?_, wrap_i64 _ (by omega) (by omega)⟩
  · rw [wrap_i64 _ (by omega) (by omega)]; omega
  · rw [show min (1 : Int).toNat 64 = 1 from rfl, shr_nat, Nat.shiftRight_eq_div_pow]
theorem Search_ok (N : Nat) (hN : N < 40000000) (f : AV) (p : Nat → Bool) (hf : ∀ n : Nat, n < N → ∀ (e : Nat → AV) (m : Mem) (K : AV → St → Prop), K (.bool (p n)) ⟨e, m⟩ → @WAH ft f [I64 (n : Int)] ⟨e, m⟩ ⟨K⟩) : RV ft 50 [I64 (N : Int), f] (I64 ((bs p N 0 N : Nat) : Int)) := by
  refine RV_of ft50 rfl ?_
  simp only [c50, r50]
  simp only [go_sem, Nat.reduceEqDiff, Nat.reduceAdd, Nat.reduceLT, Nat.reduceLeDiff, reduceIte]
  refine WL_inv (α := Nat × Nat × Nat) (fun q e mm => e 1 = f ∧ e 5 = I64 q.2.1 ∧ e 6 = I64 q.2.2 ∧ q.2.2 ≤ N ∧ q.2.2 - q.2.1 ≤ q.1 ∧ bs p q.1 q.2.1 q.2.2 = bs p N 0 N) (fun q => q.1) (N, 0, N) ?_ ?_
  · simp only [go_sem, Nat.reduceEqDiff, Nat.reduceAdd, Nat.reduceLT, Nat.reduceLeDiff, reduceIte]
    exact ⟨trivial, rfl, trivial, by omega, by omega, trivial⟩
  rintro ⟨n, i, j⟩ e m ⟨g1, g5, g6, hj, hn, hq⟩
  dsimp only at g5 g6 hj hn hq
  by_cases hij : i < j
  · obtain ⟨n', rfl⟩ : ∃ n', n = n' + 1 := ⟨n - 1, by omega⟩
    rw [bs_step p n' i j hij] at hq
    obtain ⟨w1, w2, w3, w4⟩ := half64 i j (by omega)
    simp only [go_sem, Nat.reduceEqDiff, Nat.reduceAdd, Nat.reduceLT, Nat.reduceLeDiff, reduceIte, g1, g5, g6, dec_lt hij, w1, w2, show decide ((1 : Int) < 0) = false from rfl, w3, w4]
    refine hf ((i + j) / 2) (by omega) _ _ _ ?_
    cases hp : p ((i + j) / 2)
    · rw [hp] at hq
      simp only [go_sem, Nat.reduceEqDiff, Nat.reduceAdd, Nat.reduceLT, Nat.reduceLeDiff, reduceIte, g1, g5, g6, wrap_n1 ((i + j) / 2) (by omega)]
      refine Nx_of (n', (i + j) / 2 + 1, j) (by simp) ?_
      simp only [go_sem, Nat.reduceEqDiff, Nat.reduceAdd, Nat.reduceLT, Nat.reduceLeDiff, reduceIte, g1, g6]
      exact ⟨trivial, trivial, trivial, hj, by omega, hq⟩
    · rw [hp] at hq
      simp only [go_sem, Nat.reduceEqDiff, Nat.reduceAdd, Nat.reduceLT, Nat.reduceLeDiff, reduceIte, g1, g5, g6]
      refine Nx_of (n', i, (i + j) / 2) (by simp) ?_
      simp only [go_sem, Nat.reduceEqDiff, Nat.reduceAdd, Nat.reduceLT, Nat.reduceLeDiff, reduceIte, g1, g5]
      exact ⟨trivial, trivial, trivial, by omega, by omega, hq⟩
  · rw [bs_end p n i j hij] at hq
    simp only [go_sem, Nat.reduceEqDiff, Nat.reduceAdd, Nat.reduceLT, Nat.reduceLeDiff, reduceIte, g1, g5, g6, dec_ge (show j ≤ i by omega)]
    rw [hq]
/-- Hours up to an earlier minute. -/
theorem bnd_mono {h : Ho} (hV : HV h) {T T' : Int} (hT : 0 ≤ T) (hTT : T ≤ T') {H : Nat → Int} (hH : HrOK h T' H) : HrOK h T (fun r => min (H r) (T + 1)) ∧ bnd h T (fun r => min (H r) (T + 1)) ≤ bnd h T' H := by
  refine ⟨fun r hr => by have := hH r hr; show 0 ≤ min (H r) (T + 1) ∧ min (H r) (T + 1) ≤ T + 1; omega, ?_⟩
  unfold bnd
  have h1 := sumR_le (n := h.p.length) (f := fun r => if 0 < min (H r) (T + 1) then pp h r else 0) (g := fun r => if 0 < H r then pp h r else 0) fun r hr => by
    have := hH r hr
    by_cases h0 : 0 < H r
    · rw [if_pos h0, if_pos (by omega)]; omega
    · rw [if_neg h0, if_neg (by omega)]; omega
  have h2 : (sumR h.s.length fun i => sumR (nM T (pq h i)) fun m => if crB h (fun r => min (H r) (T + 1)) i m = true then (pq h i).wd else 0) ≤ sumR h.s.length fun i => sumR (nM T' (pq h i)) fun m => if crB h H i m = true then (pq h i).wd else 0 := by
    refine sumR_le fun i hi => ?_
    have hq := hV.sv _ (pq_mem hi)
    have hw0 := hq.w0
    have hle : nM T (pq h i) ≤ nM T' (pq h i) := by unfold nM; omega
    have h3 : (sumR (nM T (pq h i)) fun m => if crB h (fun r => min (H r) (T + 1)) i m = true then (pq h i).wd else 0) = sumR (nM T' (pq h i)) fun m => if m < nM T (pq h i) ∧ crB h (fun r => min (H r) (T + 1)) i m = true then (pq h i).wd else 0 := by
      rw [sumR_cut hle fun m h1 h2 => by rw [if_neg fun h => by omega]]
      refine sumR_congr fun m hm => ?_
      by_cases hc : crB h (fun r => min (H r) (T + 1)) i m = true
      · rw [if_pos hc, if_pos ⟨hm, hc⟩]
      · rw [if_neg hc, if_neg fun h => hc h.2]
    rw [h3]
    refine sumR_le fun m hm => ?_
    by_cases hc : m < nM T (pq h i) ∧ crB h (fun r => min (H r) (T + 1)) i m = true
    · rw [if_pos hc, if_pos]
      · omega
      · obtain ⟨c1, c2⟩ := hc
        have hmw := nM_lt hq.k0 c1
        have k0 := hq.k0
        unfold crB at c2 ⊢
        simp only [Bool.and_eq_true, decide_eq_true_eq, Bool.or_eq_true, beq_iff_eq] at c2 ⊢
        refine ⟨by omega, c2.2.imp id fun h => by omega⟩
    · rw [if_neg hc]
      split <;> omega
  exact Int.add_le_add h1 h2
theorem canE_mono {h : Ho} (hV : HV h) {T T' : Int} (hT : 0 ≤ T) (hTT : T ≤ T') (hc : canE h T) : canE h T' := fun H hH => by
  obtain ⟨h1, h2⟩ := bnd_mono hV hT hTT hH
  have := hc _ h1
  omega
structure IsE (h : Ho) (m : Nat) : Prop where
  le : m ≤ 60
  yes : canE h m
  no : ∀ k : Nat, k < m → ¬canE h k
theorem IsE.uniq {h : Ho} {m m' : Nat} (a : IsE h m) (b : IsE h m') : m = m' := by
  rcases Nat.lt_trichotomy m m' with hl | hl | hl
  · exact absurd a.yes (b.no m hl)
  · exact hl
  · exact absurd b.yes (a.no m' hl)
open Classical in
theorem Empty_ok {h : Ho} (hV : HV h) : (∃ m : Nat, IsE h m ∧ RV ft 29 [encH h] (.tup [I64 m, I64 0])) ∨ (¬canE h 60 ∧ RV ft 29 [encH h] (.tup [I64 0, I64 3])) := by
  obtain ⟨p, hp⟩ : ∃ p : Nat → Bool, p = fun n : Nat => decide (canE h (n : Int)) := ⟨_, rfl⟩
  have hpm : ∀ a b, a ≤ b → p a = true → p b = true := fun a b hab ha => by
    rw [hp] at ha ⊢
    exact decide_eq_true (canE_mono hV (by omega) (by omega) (of_decide_eq_true ha))
  have hf51 : ∀ n : Nat, n < 61 → RV ft 51 [I64 (n : Int), .pv (encH h) 0] (.bool (p n)) := fun n hn => by
    refine RV_of ft51 rfl ?_
    simp only [c51, r51]
    have := canEmpty_ok hV (T := (n : Int)) (by omega) (by omega)
    simp only [go_sem, Nat.reduceEqDiff, Nat.reduceAdd, Nat.reduceLT, Nat.reduceLeDiff, reduceIte, HEta, WB52, WVH_eq this, true_and]
    rw [hp]
  have hS := Search_ok 61 (by omega) (.fn 51 [] [.pv (encH h) 0]) p fun n hn e m K hK => by
    rw [WAH_fn]
    simp only [List.nil_append, List.cons_append]
    simp only [go_sem, Nat.reduceEqDiff, Nat.reduceAdd, Nat.reduceLT, Nat.reduceLeDiff, reduceIte, WB51, WVH_eq (hf51 n hn), true_and]
    exact hK
  have h61 : ((61 : Nat) : Int) = 61 := rfl
  rw [h61] at hS
  obtain ⟨m, hm⟩ : ∃ m, m = bs p 61 0 61 := ⟨_, rfl⟩
  rw [← hm] at hS
  obtain ⟨q1, q2, q3, q4⟩ := bs_spec hpm 61 0 61 (by omega) (by omega) (fun k hk => by omega)
  rw [← hm] at q2 q3 q4
  have hc := Check_ok h (by have := hV.n6; omega) (by have := hV.sl; omega)
  rw [if_pos (vHo_iff.2 hV)] at hc
  by_cases h60 : m ≤ 60
  · refine .inl ⟨m, ⟨h60, ?_, fun k hk hc2 => ?_⟩, ?_⟩
    · have := q4 (by omega)
      rw [hp] at this; exact of_decide_eq_true this
    · have := q3 k hk
      rw [hp] at this; exact of_decide_eq_false this hc2
    · refine RV_of ft29 rfl ?_
      simp only [c29, r29]
      have d : decide ((60 : Int) < (m : Int)) = false := decide_eq_false (by omega)
      simp only [go_sem, Nat.reduceEqDiff, Nat.reduceAdd, Nat.reduceLT, Nat.reduceLeDiff, reduceIte, HEta, WB14, WVH_eq hc, true_and, bne_self_eq_false, WB50, WVH_eq hS, d]
  · refine .inr ⟨fun hc2 => ?_, ?_⟩
    · have := q3 60 (by omega)
      rw [hp] at this; exact of_decide_eq_false this hc2
    · refine RV_of ft29 rfl ?_
      simp only [c29, r29]
      have d : decide ((60 : Int) < (m : Int)) = true := decide_eq_true (by omega)
      simp only [go_sem, Nat.reduceEqDiff, Nat.reduceAdd, Nat.reduceLT, Nat.reduceLeDiff, reduceIte, HEta, WB14, WVH_eq hc, true_and, bne_self_eq_false, WB50, WVH_eq hS, d]
theorem Empty_err {h : Ho} (hl : h.p.length ≤ 40) (hs : h.s.length ≤ 40) (he : vHo h = false) : RV ft 29 [encH h] (.tup [I64 0, I64 110]) := by
  refine RV_of ft29 rfl ?_
  simp only [c29, r29]
  have hc := Check_ok h hl hs
  rw [he] at hc
  have e1 : ((110 : Int) != 0) = true := rfl
  simp only [Bool.false_eq_true, if_false] at hc
  simp only [go_sem, Nat.reduceEqDiff, Nat.reduceAdd, Nat.reduceLT, Nat.reduceLeDiff, reduceIte, HEta, WB14, WVH_eq hc, true_and, e1]
/-! ### A passage is shut -/
theorem Is_hd (l : List Int) : hdSz (l.map I64) 1 = true := hdSz_map' I64 1 l fun _ => rfl
theorem Ps_hd (l : List Pas) : hdSz (l.map encP) 4 = true := hdSz_map' encP 4 l fun _ => rfl
theorem app0I (m : Mem) (l : List Int) (hl : l.length ≤ 100000) (hne : l ≠ []) : append0 m (.sl [] .tight) (encIs l) 1 8 = some (.ref m.blks.length 0 l.length, newBlk m (l.map I64) 1) := by
  simp only [append0, encIs, Mem.elems, List.length_map, Is_hd]
  rw [if_pos ⟨⟨by simp only [limit]; omega, trivial⟩, by simpa using hne⟩]
theorem app0P (m : Mem) (l : List Pas) (hl : l.length ≤ 100000) (hne : l ≠ []) : append0 m (.sl [] .tight) (encPs l) 4 32 = some (.ref m.blks.length 0 l.length, newBlk m (l.map encP) 4) := by
  simp only [append0, encPs, Mem.elems, List.length_map, Ps_hd]
  rw [if_pos ⟨⟨by simp only [limit]; omega, trivial⟩, by simpa using hne⟩]
theorem CloneI_run (l : List Int) (hne : l ≠ []) (hl : l.length ≤ 100000) : WR ft (.f 69) [encIs l] .nil fun v m => v = .ref 0 0 l.length ∧ m = ⟨[.live (l.map I64) 1], []⟩ := by
  rw [WR_f ft69 rfl]
  simp only [c69, r69]
  simp only [go_sem, Nat.reduceEqDiff, Nat.reduceAdd, Nat.reduceLT, Nat.reduceLeDiff, reduceIte]
  refine W_nilq ?_
  simp only [go_sem, Nat.reduceEqDiff, Nat.reduceAdd, Nat.reduceLT, Nat.reduceLeDiff, reduceIte]
  cases l with
  | nil => exact absurd rfl hne
  | cons x r =>
    have ha := app0I ⟨[], []⟩ (x :: r) hl (by simp)
    refine .inl ⟨I64 x, r.map I64, .unk, rfl, ?_⟩
    simp only [go_sem, Nat.reduceEqDiff, Nat.reduceAdd, Nat.reduceLT, Nat.reduceLeDiff, reduceIte, ha]
    exact ⟨rfl, rfl⟩
theorem CloneP_run (l : List Pas) (hne : l ≠ []) (hl : l.length ≤ 100000) : WR ft (.f 70) [encPs l] .nil fun v m => v = .ref 0 0 l.length ∧ m = ⟨[.live (l.map encP) 4], []⟩ := by
  rw [WR_f ft70 rfl]
  simp only [c70, r70]
  simp only [go_sem, Nat.reduceEqDiff, Nat.reduceAdd, Nat.reduceLT, Nat.reduceLeDiff, reduceIte]
  refine W_nilq ?_
  simp only [go_sem, Nat.reduceEqDiff, Nat.reduceAdd, Nat.reduceLT, Nat.reduceLeDiff, reduceIte]
  cases l with
  | nil => exact absurd rfl hne
  | cons x r =>
    have ha := app0P ⟨[], []⟩ (x :: r) hl (by simp)
    refine .inl ⟨encP x, r.map encP, .unk, rfl, ?_⟩
    simp only [go_sem, Nat.reduceEqDiff, Nat.reduceAdd, Nat.reduceLT, Nat.reduceLeDiff, reduceIte, ha]
    exact ⟨rfl, rfl⟩
def shutP (q : Pas) : Pas := { q with wd := 0 }
def shutH (h : Ho) (i : Nat) : Ho := ⟨h.p, h.s.set i (shutP (pq h i))⟩
theorem shI (n q : Nat) (l : List Int) : shiftB n q 12 (.live (l.map I64) 1) = .live (l.map I64) 1 := by
  show Blk.live ((l.map I64).map (Ab.shift n q 12)) 1 = _
  rw [List.map_map, show Ab.shift n q 12 ∘ I64 = I64 from funext fun _ => rfl]
theorem shP (n q : Nat) (l : List Pas) : shiftB n q 12 (.live (l.map encP) 4) = .live (l.map encP) 4 := by
  show Blk.live ((l.map encP).map (Ab.shift n q 12)) 4 = _
  rw [List.map_map, show Ab.shift n q 12 ∘ encP = encP from funext fun _ => rfl]
theorem shR (n q k : Nat) : Ab.shift n q 12 (.ref 0 0 k) = .ref n 0 k := by show AV.ref (n + 0) 0 k = _; rw [Nat.add_zero]
theorem snI10 (m : Mem) (k : Nat) (l : List Int) : (l.map I64).map (snap m (k + 1)) = l.map I64 := by
  rw [List.map_map, show snap m (k + 1) ∘ I64 = I64 from funext fun _ => rfl]
theorem snP10 (m : Mem) (k : Nat) (l : List Pas) : (l.map encP).map (snap m (k + 2)) = l.map encP := by
  rw [List.map_map, show snap m (k + 2) ∘ encP = encP from funext fun _ => rfl]
theorem shut_ok {h : Ho} (hp1 : h.p ≠ []) (hpl : h.p.length ≤ 40) (hsl : h.s.length ≤ 40) {i : Nat} (hi : i < h.s.length) : RV ft 54 [encH h, I64 (i : Int)] (encH (shutH h i)) := by
  refine RV_of ft54 rfl ?_
  simp only [c54, r54]
  have hsne : h.s ≠ [] := by intro e; rw [e] at hi; simp at hi
  simp only [go_sem, Nat.reduceEqDiff, Nat.reduceAdd, Nat.reduceLT, Nat.reduceLeDiff, reduceIte, HEta, WB69]
  refine WR_mono (CloneI_run h.p hp1 (by omega)) fun v m hv => ?_
  obtain ⟨rfl, rfl⟩ := hv
  simp only [go_sem, Nat.reduceEqDiff, Nat.reduceAdd, Nat.reduceLT, Nat.reduceLeDiff, reduceIte, joinMem, shI, shR, WB70]
  refine ⟨trivial, ?_⟩
  refine WR_mono (CloneP_run h.s hsne (by omega)) fun v m hv => ?_
  obtain ⟨rfl, rfl⟩ := hv
  have hq := pq_get hi
  have w1 : ∀ v : AV, writeCells (encH h) 0 [v] = some (.agg [v, encPs h.s]) := fun v => rfl
  have w2 : ∀ a v : AV, writeCells (.agg [a, encPs h.s]) 1 [v] = some (.agg [a, v]) := fun a v => rfl
  simp only [go_sem, Nat.reduceEqDiff, Nat.reduceAdd, Nat.reduceLT, Nat.reduceLeDiff, reduceIte, joinMem, shP, shR, w1, w2]
  have d : decide ((0 ≤ (i : Int) ∧ (i : Int) < (h.s.length : Int)) ∧ True) = true := decide_eq_true ⟨by omega, trivial⟩
  refine ⟨trivial, ?_⟩
  have hg : (h.s.map encP)[i]? = some (encP (pq h i)) := by rw [List.getElem?_map, hq]; rfl
  have e0 : 0 + (i : Int).toNat = i := by omega
  have w3 : writeCells (encP (pq h i)) 2 [.int .i64 0] = some (encP (shutP (pq h i))) := rfl
  simp only [go_sem, Nat.reduceEqDiff, Nat.reduceAdd, Nat.reduceLT, Nat.reduceLeDiff, reduceIte, d, e0, hg, w3]
  rw [if_pos (by simp), if_pos (by simp)]
  have l1 : List.take h.p.length (h.p.map I64) = h.p.map I64 := List.take_of_length_le (by simp)
  have l2 : List.take h.s.length ((h.s.map encP).set i (encP (shutP (pq h i)))) = (h.s.set i (shutP (pq h i))).map encP := by rw [List.map_set]; exact List.take_of_length_le (by simp)
  rw [l1, l2]
  simp only [snEs, snI10 _ 9, snP10 _ 8]
  rfl
end Go.Ab.T
end
