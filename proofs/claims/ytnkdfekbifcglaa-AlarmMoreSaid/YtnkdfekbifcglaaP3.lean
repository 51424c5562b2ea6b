/-
  A part of the proofs over this seat.
  (The texts KrK4, one behind the other.)
-/
import Derived.Test.YtnkdfekbifcglaaP2
set_option linter.unusedSimpArgs false
set_option linter.unusedVariables false
set_option linter.unusedSectionVars false
section
namespace Go.Ab.T
set_option maxRecDepth 8000
set_option maxHeartbeats 1000000
def zF : AV := .agg [.sl [] .tight, .sl [] .tight, I64 0, .nilm, .sl [] .tight, .sl [] .tight]
/-- While the house over time is built. -/
structure NF (h : Ho) (T : Int) (b0 N : Nat) (bl0 : List Blk) (E : List Arc) (bl : List Blk) (tk : List (Nat × Nat)) : Prop where
  k2 : bl[b0]? = some (.live [encH h] 2)
  k4 : bl[b0 + 1]? = some (.live [zF] 6)
  um : bl[b0 + 4]? = some (.mp (encU []) (.n 2))
  ar : ∃ rows, bl[b0 + 5]? = some (.live rows 1) ∧ RowsI tk rows N (adj E)
  sn : bl[b0 + 6]? = some (.live (List.replicate N (.bool false)) 1)
  pre : ∀ i, i < b0 → bl[i]? = bl0[i]?
theorem get_app_lt {α : Type} {l : List α} {i : Nat} (h : i < l.length) (y : List α) : (l ++ y)[i]? = l[i]? := List.getElem?_append_left h
theorem NF.ext {h : Ho} {T : Int} {b0 N : Nat} {bl0 : List Blk} {E : List Arc} {bl : List Blk} {tk : List (Nat × Nat)} (H : NF h T b0 N bl0 E bl tk) (j : List Blk) : NF h T b0 N bl0 E (bl ++ j) tk :=
  have hl := (List.getElem?_eq_some_iff.1 H.k2).1
  { k2 := getA H.k2 _, k4 := getA H.k4 _, um := getA H.um _, ar := (let ⟨r, h1, h2⟩ := H.ar; ⟨r, getA h1 _, h2⟩), sn := getA H.sn _, pre := fun i hi => by rw [get_app_lt (by omega)]; exact H.pre i hi }
theorem NF.addW {h : Ho} {T : Int} {b0 N : Nat} {bl0 : List Blk} {E : List Arc} {bl : List Blk} {tk : List (Nat × Nat)} (H : NF h T b0 N bl0 E bl tk) (hE : E.length ≤ 10000) {a : Arc} (ha : ArcOK N a) {K : AV → Mem → Prop}
    (hK : ∀ bl' tk', NF h T b0 N bl0 (E ++ [a]) bl' tk' → K (.tup []) ⟨bl', tk'⟩) : WR ft (.f 74) [floV h T (b0 + 4) (b0 + 5) (b0 + 6) N, encA a] ⟨bl, tk⟩ K := by
  obtain ⟨rows, h1, h2⟩ := H.ar
  obtain ⟨x, hx⟩ := Int.eq_ofNat_of_zero_le ha.a0
  obtain ⟨y, hy⟩ := Int.eq_ofNat_of_zero_le ha.b0
  have a1 := ha.a1
  have b1 := ha.b1
  have hne := ha.ne
  have hxy : x ≠ y := fun e => hne (by rw [hx, hy, e])
  refine add_W h1 h2 (fun v => Nat.le_trans (adj_len E v) hE) hx hy (by omega) (by omega) fun j rows' tk' hR => hK _ _ ?_
  have hL : putL (putL (adj E) x a) y a = adj (E ++ [a]) := by
    funext v
    rw [adj_snoc]
    unfold putL
    by_cases hv : v = y
    · subst hv
      rw [if_pos rfl, if_neg (Ne.symm hxy), if_pos (.inr hy)]
    · rw [if_neg hv]
      by_cases hv2 : v = x
      · subst hv2; rw [if_pos rfl, if_pos (.inl hx)]
      · rw [if_neg hv2, if_neg (by rw [hx, hy]; omega), List.append_nil]
  rw [hL] at hR
  have hl := (List.getElem?_eq_some_iff.1 H.sn).1
  exact ⟨getA (setN H.k2 (by omega)) _, getA (setN H.k4 (by omega)) _, getA (setN H.um (by omega)) _, ⟨rows', getA (setS' h1) _, hR⟩, getA (setN H.sn (by omega)) _, fun i hi => by
    rw [get_app_lt (by rw [List.length_set]; omega), List.getElem?_set_ne (by omega)]; exact H.pre i hi⟩
/-- A house over time, as it is in the memory. -/
structure FI (h : Ho) (T : Int) (b0 N : Nat) (bl0 : List Blk) (E : List Arc) (w : UM) (S : List Bool) (bl : List Blk) : Prop where
  um : bl[b0 + 4]? = some (.mp (encU w) (.n 2))
  ar : ∃ rows, bl[b0 + 5]? = some (.live rows 1) ∧ rows.length = N ∧ ∀ v, v < N → ∃ t, rows[v]? = some (.sl ((adj E v).map encA) t)
  sn : bl[b0 + 6]? = some (.live (S.map .bool) 1)
  srt : Srt w
  len : S.length = N
  pre : ∀ i, i < b0 → bl[i]? = bl0[i]?
theorem makeN (m : Mem) (z : AV) (by' n : Nat) (hn : n ≤ 1000) (hb : by' ≤ 100) (hz : z.cells.length = 1 ∧ z.solids = true) : makeAt m z 1 by' (I64 (n : Int)) (I64 (n : Int)) = some (.ref m.blks.length 0 n, newBlk m (List.replicate n z) 1) := by
  have hle : n * (by' + 1) ≤ limit := by
    have : n * (by' + 1) ≤ 1000 * 101 := Nat.mul_le_mul hn (by omega)
    unfold limit; omega
  simp only [makeAt, asInt, Int.toNat_natCast]
  rw [if_pos ⟨⟨by omega, trivial⟩, hle, hz⟩]
def rE (h : Ho) (T : Int) (q m : Nat) : List Arc := roomsE h T q ++ startA h T q :: (List.range m).map (stayA h T q)
theorem newFlow_W {h : Ho} (hV : HV h) {T : Int} (hT0 : 0 ≤ T) (hT : T ≤ 60) {N : Nat} (hN : nN h T = N) {bl : List Blk} {tk : List (Nat × Nat)} {K : AV → Mem → Prop}
    (hK : ∀ bl' tk', FI h T bl.length N bl (net h T) [] (List.replicate N false) bl' → K (floV h T (bl.length + 4) (bl.length + 5) (bl.length + 6) N) ⟨bl', tk'⟩) : WR ft (.f 63) [encH h, I64 T] ⟨bl, tk⟩ K := by
  rw [WR_f ft63 rfl]
  simp only [c63, r63]
  have n1 := hV.n1
  have n6 := hV.n6
  have sl := hV.sl
  have hNn : (N : Int) = 2 + h.p.length * (T + 1) := by rw [← hN]; rfl
  have hmb : (h.p.length : Int) * (T + 1) ≤ 6 * 61 := by
    calc (h.p.length : Int) * (T + 1) ≤ 6 * (T + 1) := Int.mul_le_mul_of_nonneg_right (by omega) (by omega)
      _ ≤ 6 * 61 := by omega
  have hmn : 0 ≤ (h.p.length : Int) * (T + 1) := Int.mul_nonneg (by omega) (by omega)
  have w1 := wrap_i64 (T + 1) (by omega) (by omega)
  have w2 := wrap_i64 ((h.p.length : Int) * (T + 1)) (by omega) (by omega)
  have w3 := wrap_i64 (2 + (h.p.length : Int) * (T + 1)) (by omega) (by omega)
  have hN2 : N ≤ 1000 := by omega
  have wN := wrap_i64 (N : Int) (by omega) (by omega)
  have mk1 := fun m => makeN m (.sl [] .tight) 24 N hN2 (by omega) ⟨rfl, rfl⟩
  have mk2 := fun m => makeN m (.bool false) 1 N hN2 (by omega) ⟨rfl, rfl⟩
  have e0 : ∀ (x y : Blk), (bl ++ [x] ++ [y])[bl.length]? = some x := fun x y => by simp
  simp only [go_sem, Nat.reduceEqDiff, Nat.reduceAdd, Nat.reduceLT, Nat.reduceLeDiff, reduceIte, e0, w1, w2, w3, ← hNn, wN, HEta, WB41]
  refine newTimed_W fun x y => ?_
  obtain ⟨b0, hb0⟩ : ∃ b0, b0 = bl.length := ⟨_, rfl⟩
  obtain ⟨B, hB⟩ : ∃ B, B = bl ++ [Blk.live [encH h] 2] ++ [Blk.live [AV.agg [.sl [] .tight, .sl [] .tight, AV.int .i64 0, .nilm, .sl [] .tight, .sl [] .tight]] 6] ++ [x, y, .mp (encU []) (.n 2)] ++ [Blk.live (List.replicate N (.sl [] .tight)) 1] ++ [Blk.live (List.replicate N (.bool false)) 1] ++ [Blk.dead] := ⟨_, rfl⟩
  have l1 : (bl ++ [Blk.live [encH h] 2] ++ [Blk.live [AV.agg [.sl [] .tight, .sl [] .tight, AV.int .i64 0, .nilm, .sl [] .tight, .sl [] .tight]] 6]).length = b0 + 2 := by simp [hb0]
  have l2 : (bl ++ [Blk.live [encH h] 2] ++ [Blk.live [AV.agg [.sl [] .tight, .sl [] .tight, AV.int .i64 0, .nilm, .sl [] .tight, .sl [] .tight]] 6] ++ [x, y, .mp (encU []) (.n 2)]).length = b0 + 5 := by simp [hb0]
  have l3 : ∀ z, (bl ++ [Blk.live [encH h] 2] ++ [Blk.live [AV.agg [.sl [] .tight, .sl [] .tight, AV.int .i64 0, .nilm, .sl [] .tight, .sl [] .tight]] 6] ++ [x, y, .mp (encU []) (.n 2)] ++ [z]).length = b0 + 6 := fun z => by simp [hb0]
  have l4 : ∀ z u, (bl ++ [Blk.live [encH h] 2] ++ [Blk.live [AV.agg [.sl [] .tight, .sl [] .tight, AV.int .i64 0, .nilm, .sl [] .tight, .sl [] .tight]] 6] ++ [x, y, .mp (encU []) (.n 2)] ++ [z] ++ [u]).length = b0 + 7 := fun z u => by simp [hb0]
  have g7 : ∀ (z u v : Blk), (bl ++ [Blk.live [encH h] 2] ++ [Blk.live [AV.agg [.sl [] .tight, .sl [] .tight, AV.int .i64 0, .nilm, .sl [] .tight, .sl [] .tight]] 6] ++ [x, y, .mp (encU []) (.n 2)] ++ [z] ++ [u] ++ [v])[b0 + 7]? = some v := fun z u v => by simp [hb0]
  have s7 : ∀ (z u v t : Blk), (bl ++ [Blk.live [encH h] 2] ++ [Blk.live [AV.agg [.sl [] .tight, .sl [] .tight, AV.int .i64 0, .nilm, .sl [] .tight, .sl [] .tight]] 6] ++ [x, y, .mp (encU []) (.n 2)] ++ [z] ++ [u] ++ [v]).set (b0 + 7) t = bl ++ [Blk.live [encH h] 2] ++ [Blk.live [AV.agg [.sl [] .tight, .sl [] .tight, AV.int .i64 0, .nilm, .sl [] .tight, .sl [] .tight]] 6] ++ [x, y, .mp (encU []) (.n 2)] ++ [z] ++ [u] ++ [t] := fun z u v t => by simp [hb0]
  have hTs : (timV h T (b0 + 4)).solids = true := rfl
  have l1' : bl.length + 1 + 1 = b0 + 2 := by rw [hb0]
  have H0 : NF h T b0 N bl [] B tk := by
    refine ⟨by rw [hB, hb0]; simp, by rw [hB, hb0]; simp; rfl, by rw [hB, hb0]; simp, ⟨_, by rw [hB, hb0]; simp; rfl, ?_⟩, by rw [hB, hb0]; simp, fun i hi => by
      rw [hb0] at hi
      rw [hB]; simp only [List.append_assoc]; exact get_app_lt hi _⟩
    refine ⟨by simp, fun v hv => .inl ⟨rfl, by simp [hv]⟩, fun v v' es es' t h1 h2 => ?_⟩
    rw [List.getElem?_replicate] at h1
    split at h1 <;> cases h1
  have hk2 := H0.k2
  rw [hb0] at hk2
  have le1 : (bl ++ [Blk.live [encH h] 2]).length = b0 + 1 := by simp [hb0]
  simp only [go_sem, Nat.reduceEqDiff, Nat.reduceAdd, Nat.reduceLT, Nat.reduceLeDiff, reduceIte, mk1, mk2, hTs, le1, l1, l2, l3, l4, l1', g7, s7, isAgg_mp, solid_mp, solid_nilm, cells_nilm, ← hB, hk2]
  rw [← hb0] at hK ⊢
  have hTn : (T.toNat : Int) = T := Int.toNat_of_nonneg hT0
  have hf : ∀ q m, q ≤ 6 → m ≤ 60 → (rE h T q m).length ≤ 10000 := fun q m hq hm => by
    have : q * (T.toNat + 1) ≤ 6 * 61 := Nat.mul_le_mul hq (by omega)
    simp only [rE, List.length_append, roomsE_len, List.length_cons, List.length_map, List.length_range]; omega
  have hr : ∀ q, rE h T q T.toNat = roomsE h T (q + 1) := fun q => by rw [roomsE_succ]; rfl
  refine WL_inv (α := Nat × List Blk × List (Nat × Nat)) (fun q e mm => e 1 = I64 T ∧ e 2 = .ptr b0 0 0 ∧ e 4 = .ptr (b0 + 1) 0 0 ∧ e 6 = .pv (floV h T (b0 + 4) (b0 + 5) (b0 + 6) N) 0 ∧ e 29 = encIs h.p ∧ e 30 = I64 h.p.length ∧ e 31 = I64 q.1 ∧ q.1 ≤ h.p.length ∧ NF h T b0 N bl (roomsE h T q.1) q.2.1 q.2.2 ∧ mm = ⟨q.2.1, q.2.2⟩) (fun q => h.p.length - q.1) (0, B, tk) ?_ ?_
  · simp only [go_sem, Nat.reduceEqDiff, Nat.reduceAdd, Nat.reduceLT, Nat.reduceLeDiff, reduceIte]
    ((repeat' apply And.intro) <;> first | trivial | rfl | assumption | omega | (exact H0))
  rintro ⟨q, C, tc⟩ e mm ⟨g1, g2, g4, g6, g29, g30, g31, hq, H, rfl⟩
  dsimp only at g31 hq H
  by_cases hlt : q < h.p.length
  · obtain ⟨c, hc⟩ : ∃ c, h.p[q]? = some c := ⟨_, List.getElem?_eq_getElem hlt⟩
    have hcd : (h.p[q]?).getD 0 = c := by rw [hc]; rfl
    have hS : encA (startA h T q) = .agg [I64 (-1 - (q : Int)), I64 (-1), I64 0, I64 (ndI T q 0), I64 c] := by unfold startA; rw [hcd]; rfl
    have hst := stay_ok (q : Int) (-1) (by omega) (by omega)
    simp only [go_sem, Nat.reduceEqDiff, Nat.reduceAdd, Nat.reduceLT, Nat.reduceLeDiff, reduceIte, g1, g2, g4, g6, g29, g30, g31, dec_lt hlt, Is_idx hc, WB75, WVH_eq hst, true_and, WB68]
    refine node_W hT0 hT (by omega) (by omega) (by omega) (by omega) fun j => ?_
    simp only [go_sem, Nat.reduceEqDiff, Nat.reduceAdd, Nat.reduceLT, Nat.reduceLeDiff, reduceIte, g1, g2, g4, g6, g29, g30, g31, ← hS, WB74]
    refine (H.ext j).addW (by rw [roomsE_len]; have : q * (T.toNat + 1) ≤ 6 * 61 := Nat.mul_le_mul (by omega) (by omega); omega) (by rw [← hN]; exact startA_ok hV hT0 hlt) fun C2 tc2 H2 => ?_
    simp only [go_sem, Nat.reduceEqDiff, Nat.reduceAdd, Nat.reduceLT, Nat.reduceLeDiff, reduceIte, g1, g2, g4, g6, g29, g30, g31]
    refine WL_inv (α := Nat × List Blk × List (Nat × Nat)) (fun m e mm => e 1 = I64 T ∧ e 2 = .ptr b0 0 0 ∧ e 4 = .ptr (b0 + 1) 0 0 ∧ e 6 = .pv (floV h T (b0 + 4) (b0 + 5) (b0 + 6) N) 0 ∧ e 7 = I64 q ∧ e 29 = encIs h.p ∧ e 30 = I64 h.p.length ∧ e 31 = I64 q ∧ e 45 = I64 T ∧ e 46 = I64 m.1 ∧ m.1 ≤ T.toNat ∧ NF h T b0 N bl (rE h T q m.1) m.2.1 m.2.2 ∧ mm = ⟨m.2.1, m.2.2⟩) (fun m => T.toNat - m.1) (0, C2, tc2) ?_ ?_
    · simp only [go_sem, Nat.reduceEqDiff, Nat.reduceAdd, Nat.reduceLT, Nat.reduceLeDiff, reduceIte, g1, g2, g4, g6, g29, g30, g31]
      ((repeat' apply And.intro) <;> first | trivial | rfl | assumption | omega | (exact H2) | (exact Nat.zero_le _))
    rintro ⟨m, C3, tc3⟩ e mm ⟨g1, g2, g4, g6, g7, g29, g30, g31, g45, g46, hm, H3, rfl⟩
    dsimp only at g46 hm H3
    by_cases hmt : m < T.toNat
    · have dm : decide ((m : Int) < T) = true := decide_eq_true (by omega)
      have hst := stay_ok (q : Int) (m : Int) (by omega) (by omega)
      have hS2 : encA (stayA h T q m) = .agg [I64 (-1 - (q : Int)), I64 m, I64 (ndI T q m), I64 (ndI T q ((m + 1 : Nat) : Int)), I64 (allP h)] := rfl
      simp only [go_sem, Nat.reduceEqDiff, Nat.reduceAdd, Nat.reduceLT, Nat.reduceLeDiff, reduceIte, g1, g2, g4, g6, g7, g29, g30, g31, g45, g46, dm, wrap_n1 m (by omega), WB75, WVH_eq hst, true_and, WB68]
      refine node_W hT0 hT (by omega) (by omega) (by omega) (by omega) fun j1 => ?_
      simp only [go_sem, Nat.reduceEqDiff, Nat.reduceAdd, Nat.reduceLT, Nat.reduceLeDiff, reduceIte, g1, g2, g4, g6, g7, g29, g30, g31, g45, g46, WB68]
      refine node_W hT0 hT (by omega) (by omega) (by omega) (by omega) fun j2 => ?_
      simp only [go_sem, Nat.reduceEqDiff, Nat.reduceAdd, Nat.reduceLT, Nat.reduceLeDiff, reduceIte, g1, g2, g4, g6, g7, g29, g30, g31, g45, g46, WB65]
      refine everyone_W (h := h) (T := T) (um := b0 + 4) hV fun j3 => ?_
      simp only [go_sem, Nat.reduceEqDiff, Nat.reduceAdd, Nat.reduceLT, Nat.reduceLeDiff, reduceIte, g1, g2, g4, g6, g7, g29, g30, g31, g45, g46, ← hS2, WB74]
      refine (((H3.ext j1).ext j2).ext j3).addW (hf q m (by omega) (by omega)) (by rw [← hN]; exact stayA_ok hV hT0 hlt hmt) fun C4 tc4 H4 => ?_
      simp only [go_sem, Nat.reduceEqDiff, Nat.reduceAdd, Nat.reduceLT, Nat.reduceLeDiff, reduceIte, g1, g2, g4, g6, g7, g29, g30, g31, g45, g46, wrap_n1 m (by omega)]
      refine Nx_of (m + 1, C4, tc4) (by show T.toNat - (m + 1) < T.toNat - m; omega) ?_
      simp only [go_sem, Nat.reduceEqDiff, Nat.reduceAdd, Nat.reduceLT, Nat.reduceLeDiff, reduceIte, g1, g2, g4, g6, g7, g29, g30, g31, g45]
      have he : rE h T q m ++ [stayA h T q m] = rE h T q (m + 1) := by
        unfold rE; rw [range_snoc, List.map_append]; simp
      rw [he] at H4
      ((repeat' apply And.intro) <;> first | trivial | rfl | assumption | omega | (exact hmt) | (exact H4))
    · have dm : decide ((m : Int) < T) = false := decide_eq_false (by omega)
      have hme : m = T.toNat := by omega
      subst hme
      rw [hr] at H3
      simp only [go_sem, Nat.reduceEqDiff, Nat.reduceAdd, Nat.reduceLT, Nat.reduceLeDiff, reduceIte, g1, g2, g4, g6, g7, g29, g30, g31, g45, g46, dm, wrap_n1 q (by omega)]
      refine Nx_of (q + 1, C3, tc3) (by show h.p.length - (q + 1) < h.p.length - q; omega) ?_
      simp only [go_sem, Nat.reduceEqDiff, Nat.reduceAdd, Nat.reduceLT, Nat.reduceLeDiff, reduceIte, g1, g2, g4, g6, g29, g30]
      ((repeat' apply And.intro) <;> first | trivial | rfl | assumption | omega | (exact hlt) | (exact H3))
  have hqe : q = h.p.length := by omega
  subst hqe
  have hk2 := H.k2
  have hk4 := H.k4
  simp only [go_sem, Nat.reduceEqDiff, Nat.reduceAdd, Nat.reduceLT, Nat.reduceLeDiff, reduceIte, g1, g2, g4, g6, g29, g30, g31, dec_ge (Nat.le_refl h.p.length), hk2]
  have hfl : ∀ k, k ≤ 12 → (roomsE h T h.p.length ++ passE h T k).length ≤ 5000 := fun k hk => by
    have := passE_len h hT (fun q hq => (hV.sv q hq).k0) k
    have : h.p.length * (T.toNat + 1) ≤ 6 * 61 := Nat.mul_le_mul (by omega) (by omega)
    rw [List.length_append, roomsE_len]; omega
  refine WL_inv (α := Nat × List Blk × List (Nat × Nat)) (fun q e mm => e 1 = I64 T ∧ e 2 = .ptr b0 0 0 ∧ e 4 = .ptr (b0 + 1) 0 0 ∧ e 6 = .pv (floV h T (b0 + 4) (b0 + 5) (b0 + 6) N) 0 ∧ e 70 = encPs h.s ∧ e 71 = I64 h.s.length ∧ e 72 = I64 q.1 ∧ q.1 ≤ h.s.length ∧ NF h T b0 N bl (roomsE h T h.p.length ++ passE h T q.1) q.2.1 q.2.2 ∧ mm = ⟨q.2.1, q.2.2⟩) (fun q => h.s.length - q.1) (0, C, tc) ?_ ?_
  · simp only [go_sem, Nat.reduceEqDiff, Nat.reduceAdd, Nat.reduceLT, Nat.reduceLeDiff, reduceIte, g1, g2, g4, g6]
    have : roomsE h T h.p.length ++ passE h T 0 = roomsE h T h.p.length := by simp [passE]
    rw [this]
    ((repeat' apply And.intro) <;> first | trivial | rfl | assumption | omega | (exact H) | (exact Nat.zero_le _))
  clear H g1 g2 g4 g6 g29 g30 g31 hk2 hk4 e
  rintro ⟨i, C, tc⟩ e mm ⟨g1, g2, g4, g6, g70, g71, g72, hi, H, rfl⟩
  dsimp only at g72 hi H
  by_cases hlt : i < h.s.length
  · obtain ⟨c, hc⟩ : ∃ c, h.s[i]? = some c := ⟨_, List.getElem?_eq_getElem hlt⟩
    have hcm := List.mem_of_getElem? hc
    have hcV := hV.sv c hcm
    have k0 := hcV.k0
    have k1 := hcV.k1
    have gJ : ∀ y : Blk, (C ++ [y])[C.length]? = some y := fun y => by simp
    have sJ : ∀ y z : Blk, (C ++ [y]).set C.length z = C ++ [z] := fun y z => by simp
    have x1 := wrap_i64 (T - c.wk) (by omega) (by omega)
    have x2 := wrap_i64 (T - c.wk + 1) (by omega) (by omega)
    simp only [go_sem, Nat.reduceEqDiff, Nat.reduceAdd, Nat.reduceLT, Nat.reduceLeDiff, reduceIte, g1, g2, g4, g6, g70, g71, g72, dec_lt hlt, Ps_idx hc, gJ, sJ, x1, x2]
    have hpl : ∀ m, m ≤ nM T c → m ≤ 60 := fun m hm => by unfold nM at hm; omega
    refine WL_inv (α := Nat × List Blk × List (Nat × Nat)) (fun m e mm => e 1 = I64 T ∧ e 2 = .ptr b0 0 0 ∧ e 4 = .ptr (b0 + 1) 0 0 ∧ e 6 = .pv (floV h T (b0 + 4) (b0 + 5) (b0 + 6) N) 0 ∧ e 10 = I64 i ∧ e 11 = .pv (encP c) 0 ∧ e 70 = encPs h.s ∧ e 71 = I64 h.s.length ∧ e 72 = I64 i ∧ e 81 = I64 (T - c.wk + 1) ∧ e 82 = I64 m.1 ∧ m.1 ≤ nM T c ∧ NF h T b0 N bl (roomsE h T h.p.length ++ passE h T i ++ (List.range m.1).map (passA T i c)) m.2.1 m.2.2 ∧ mm = ⟨m.2.1, m.2.2⟩) (fun m => nM T c - m.1) (0, C ++ [Blk.dead], tc) ?_ ?_
    · simp only [go_sem, Nat.reduceEqDiff, Nat.reduceAdd, Nat.reduceLT, Nat.reduceLeDiff, reduceIte, g1, g2, g4, g6, g70, g71, g72]
      have : roomsE h T h.p.length ++ passE h T i ++ (List.range 0).map (passA T i c) = roomsE h T h.p.length ++ passE h T i := by simp
      rw [this]
      ((repeat' apply And.intro) <;> first | trivial | rfl | assumption | omega | (exact H.ext _) | (exact Nat.zero_le _))
    rintro ⟨m, C3, tc3⟩ e mm ⟨g1, g2, g4, g6, g10, g11, g70, g71, g72, g81, g82, hm, H3, rfl⟩
    dsimp only at g82 hm H3
    by_cases hmt : m < nM T c
    · have dm : decide ((m : Int) < T - c.wk + 1) = true := decide_eq_true (by unfold nM at hmt; omega)
      have hmw := nM_lt k0 hmt
      have x3 := wrap_i64 ((m : Int) + c.wk) (by omega) (by omega)
      have hS2 : encA (passA T i c m) = .agg [I64 (i : Int), I64 m, I64 (ndI T c.fr m), I64 (ndI T c.to (m + c.wk)), I64 c.wd] := rfl
      have f0 := hcV.f0
      have f1 := hcV.f1
      have t0 := hcV.t0
      have t1 := hcV.t1
      simp only [go_sem, Nat.reduceEqDiff, Nat.reduceAdd, Nat.reduceLT, Nat.reduceLeDiff, reduceIte, g1, g2, g4, g6, g10, g11, g70, g71, g72, g81, g82, dm, x3, KEta, WB68]
      refine node_W hT0 hT (by omega) (by omega) (by omega) (by omega) fun j1 => ?_
      simp only [go_sem, Nat.reduceEqDiff, Nat.reduceAdd, Nat.reduceLT, Nat.reduceLeDiff, reduceIte, g1, g2, g4, g6, g10, g11, g70, g71, g72, g81, g82, x3, KEta, WB68]
      refine node_W hT0 hT (by omega) (by omega) (by omega) (by omega) fun j2 => ?_
      simp only [go_sem, Nat.reduceEqDiff, Nat.reduceAdd, Nat.reduceLT, Nat.reduceLeDiff, reduceIte, g1, g2, g4, g6, g10, g11, g70, g71, g72, g81, g82, KCells, ← hS2, WB74]
      have hE2 : (roomsE h T h.p.length ++ passE h T i ++ (List.range m).map (passA T i c)).length ≤ 10000 := by
        have := hfl i (by omega)
        have := hpl m hm
        rw [List.length_append, List.length_map, List.length_range]; omega
      refine ((H3.ext j1).ext j2).addW hE2 (by rw [← hN]; exact passA_ok hV hT0 hcm hmt) fun C4 tc4 H4 => ?_
      simp only [go_sem, Nat.reduceEqDiff, Nat.reduceAdd, Nat.reduceLT, Nat.reduceLeDiff, reduceIte, g1, g2, g4, g6, g10, g11, g70, g71, g72, g81, g82, wrap_n1 m (by omega)]
      refine Nx_of (m + 1, C4, tc4) (by show nM T c - (m + 1) < nM T c - m; omega) ?_
      simp only [go_sem, Nat.reduceEqDiff, Nat.reduceAdd, Nat.reduceLT, Nat.reduceLeDiff, reduceIte, g1, g2, g4, g6, g10, g11, g70, g71, g72, g81]
      have he : roomsE h T h.p.length ++ passE h T i ++ (List.range m).map (passA T i c) ++ [passA T i c m] = roomsE h T h.p.length ++ passE h T i ++ (List.range (m + 1)).map (passA T i c) := by
        rw [range_snoc, List.map_append]; simp
      rw [he] at H4
      ((repeat' apply And.intro) <;> first | trivial | rfl | assumption | omega | (exact hmt) | (exact H4) | ((rw [range_snoc] at H4; exact H4)))
    · have dm : decide ((m : Int) < T - c.wk + 1) = false := decide_eq_false (by unfold nM at hmt; omega)
      have hme : m = nM T c := by omega
      subst hme
      have he : roomsE h T h.p.length ++ passE h T i ++ (List.range (nM T c)).map (passA T i c) = roomsE h T h.p.length ++ passE h T (i + 1) := by
        rw [passE_succ, List.append_assoc]; unfold passO; rw [hc]; rfl
      rw [he] at H3
      simp only [go_sem, Nat.reduceEqDiff, Nat.reduceAdd, Nat.reduceLT, Nat.reduceLeDiff, reduceIte, g1, g2, g4, g6, g10, g11, g70, g71, g72, g81, g82, dm, wrap_n1 i (by omega)]
      refine Nx_of (i + 1, C3, tc3) (by show h.s.length - (i + 1) < h.s.length - i; omega) ?_
      simp only [go_sem, Nat.reduceEqDiff, Nat.reduceAdd, Nat.reduceLT, Nat.reduceLeDiff, reduceIte, g1, g2, g4, g6, g70, g71]
      ((repeat' apply And.intro) <;> first | trivial | rfl | assumption | omega | (exact hlt) | (exact H3))
  have hie : i = h.s.length := by omega
  subst hie
  have hk4 := H.k4
  have hk2 := H.k2
  unfold zF at hk4
  obtain ⟨rows, ha1, ha2⟩ := H.ar
  have hFs : (floV h T (b0 + 4) (b0 + 5) (b0 + 6) N).solids = true := rfl
  have gS : ∀ y, (C.set (b0 + 1) y)[b0 + 1]? = some y := fun y => setS' hk4
  simp only [go_sem, Nat.reduceEqDiff, Nat.reduceAdd, Nat.reduceLT, Nat.reduceLeDiff, reduceIte, g1, g2, g4, g6, g70, g71, g72, dec_ge (Nat.le_refl h.s.length), hk4, hFs, solid_mp, solid_nilm, gS]
  refine hK _ _ ⟨setN H.um (by omega), ⟨rows, setN ha1 (by omega), ha2.len, fun v hv => ha2.get hv⟩, by rw [List.map_replicate]; exact setN H.sn (by omega), List.Pairwise.nil, by simp, fun k hk => ?_⟩
  rw [List.getElem?_set_ne (by omega)]; exact H.pre k hk
end Go.Ab.T
end
