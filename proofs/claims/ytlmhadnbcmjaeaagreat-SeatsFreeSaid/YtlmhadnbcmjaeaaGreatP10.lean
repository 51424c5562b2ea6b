/-
 A part of the proofs over this seat.
 (The texts KqK27 KqM10 KqK31, one behind the other.)
-/
import Derived.Test.YtlmhadnbcmjaeaaGreatP9
import Derived.Test.YtlmhadnbcmjaeaaGreatP1
set_option linter.unusedSimpArgs false
set_option linter.unusedVariables false
set_option linter.unusedSectionVars false
section
namespace Go.Ab.T
set_option maxRecDepth 8000
set_option maxHeartbeats 4000000
structure Ak where
 min : Int
 ord : Int
 siz : Int
def encA (x : Ak) : AV := .agg [I64 x.min, I64 x.ord, I64 x.siz]
theorem ACells (x : Ak) : (encA x).cells = [I64 x.min, I64 x.ord, I64 x.siz] := rfl
theorem RowsSolid (s : List (List Int)) : (encRows s).solid = true := rfl
theorem Rows_len (m : Mem) (s : List (List Int)) : lenAt m (encRows s) = some (I64 s.length) := by unfold encRows; rw [lenAt_sl, List.length_map]
theorem Rows_idx {s : List (List Int)} {k : Nat} {x : List Int} (h : s[k]? = some x) (m : Mem) : idxAt m (encRows s) (I64 (k : Int)) 1 = some (.pv (encIs x) 0) := by
 have hk : k < s.length := (List.getElem?_eq_some_iff.1 h).1
 unfold encRows
 rw [idxAt_sl]
 simp [h]
 rfl
theorem snRows (m : Mem) (q : Nat) (s : List (List Int)) : Ab.snap m (q + 4) (encRows s) = encRows s := by
 show AV.sl ((s.map encIs).map (Ab.snap m (q + 3))) .unk = _
 rw [List.map_map, show Ab.snap m (q + 3) ∘ encIs = encIs from funext (fun r => snIs m (q + 1) r)]; rfl
theorem hotRows (q : Nat) (s : List (List Int)) : hot (q + 4) (encRows s) = false := by
 show (s.map encIs).any (hot (q + 3)) = false
 rw [List.any_map, List.any_eq_false]; intro r _
 simp only [Function.comp]
 rw [show hot (q + 3) (encIs r) = false from hotIs (q + 1) r]; decide
def scG (plc : Nat → Bool) (z : Nat) : Nat → Nat → Nat → Nat
 | 0, _, _ => 0
 | k + 1, i, nx => if nx ≤ i ∧ plc i = true then 1 + scG plc z k (i + 1) (i + z) else scG plc z k (i + 1) nx
theorem scG_le (plc : Nat → Bool) (z : Nat) : ∀ (k i nx nx' : Nat), nx ≤ i → nx' ≤ i → scG plc z k i nx = scG plc z k i nx'
 | 0, _, _, _, _, _ => rfl
 | k + 1, i, nx, nx', h, h' => by
  rw [scG, scG]
  by_cases hp : plc i = true
  ·rw [if_pos ⟨h, hp⟩, if_pos ⟨h', hp⟩]
  ·rw [if_neg (fun e => hp e.2), if_neg (fun e => hp e.2)]
   exact scG_le plc z k (i + 1) nx nx' (by omega) (by omega)
theorem scG_skip (plc : Nat → Bool) (z : Nat) : ∀ (j k i nx : Nat), (∀ t, t < j → plc (i + t) = false ∨ i + t < nx) → scG plc z (j + k) i nx = scG plc z k (i + j) nx
 | 0, k, i, nx, _ => by rw [Nat.zero_add, Nat.add_zero]
 | j + 1, k, i, nx, h => by
  rw [show j + 1 + k = (j + k) + 1 by omega, scG, if_neg (by
   have := h 0 (by omega)
   rw [Nat.add_zero] at this
   rintro ⟨a, b⟩
   rcases this with e | e
   ·rw [e] at b; cases b
   ·omega), scG_skip plc z j k (i + 1) nx (fun t ht => by have := h (t + 1) (by omega); rwa [show i + (t + 1) = i + 1 + t by omega] at this)]
  congr 1; omega
theorem scG_zero {plc : Nat → Bool} {z : Nat} : ∀ (k i nx : Nat), (∀ t, i ≤ t → t < i + k → plc t = false) → scG plc z k i nx = 0
 | 0, _, _, _ => rfl
 | k + 1, i, nx, h => by
  rw [scG, if_neg (fun e => by rw [h i (Nat.le_refl i) (by omega)] at e; cases e.2)]
  exact scG_zero k (i + 1) nx fun t a b => h t (by omega) (by omega)
def cntR (z : Nat) (row : List Int) : Nat := scG (fun i => plcR row z (i : Int)) z (row.length + 1 - z) 0 0
def cntS (z : Nat) (s : List (List Int)) : Nat := (s.map (cntR z)).sum
theorem plcR_len {row : List Int} {z i : Nat} (hz : 1 ≤ z) (h : row.length + 1 - z ≤ i) : plcR row z (i : Int) = false := by
 cases hp : plcR row z (i : Int)
 ·rfl
 ·have := plcR_fit hz hp; omega
theorem scG_more {plc : Nat → Bool} {z : Nat} : ∀ (k j i nx : Nat), (∀ t, i + k ≤ t → plc t = false) → scG plc z (k + j) i nx = scG plc z k i nx
 | 0, j, i, nx, h => by rw [Nat.zero_add]; exact scG_zero j i nx fun t a _ => h t a
 | k + 1, j, i, nx, h => by
  rw [show k + 1 + j = (k + j) + 1 by omega, scG, scG, scG_more k j (i + 1) (i + z) (fun t ht => h t (by omega)), scG_more k j (i + 1) nx (fun t ht => h t (by omega))]
def lexP (a b : Nat × Nat) : Prop := a.1 < b.1 ∨ (a.1 = b.1 ∧ a.2 < b.2)
theorem plcF_lex {row : List Int} {z r : Nat} : ∀ (k s : Nat), (plcF row z r k s).Pairwise lexP
 | 0, s => List.Pairwise.nil
 | k + 1, s => by
  rw [plcF]
  split
  ·rw [List.pairwise_cons]
   refine ⟨fun q hq => ?_, plcF_lex k (s + 1)⟩
   obtain ⟨a, b, _⟩ := (plcF_iff k (s + 1) q).1 hq
   exact .inr ⟨a.symm, by dsimp only; omega⟩
  ·exact plcF_lex k (s + 1)
theorem plcs_lex {z : Nat} (hz : 1 ≤ z) : ∀ (s : List (List Int)) (k : Nat), (plcs z (idsM s) k).Pairwise lexP
 | [], k => List.Pairwise.nil
 | r :: s, k => by
  show (plcF r z k (r.length + 1 - z) 0 ++ plcs z (idsM s) (k + 1)).Pairwise lexP
  rw [List.pairwise_append]
  refine ⟨plcF_lex _ _, plcs_lex hz s (k + 1), fun a ha b hb => ?_⟩
  obtain ⟨e, _⟩ := (plcF_iff _ _ _).1 ha
  obtain ⟨h1, _⟩ := (plcs_iff hz _ _ _).1 hb
  exact .inl (by omega)
theorem lex_before {l : List (Nat × Nat)} (hp : l.Pairwise lexP) {as bs : List (Nat × Nat)} {q q' : Nat × Nat} (e : l = as ++ q :: bs) (h : q' ∈ l) (hlt : lexP q' q) : q' ∈ as := by
 rw [e] at h hp
 rcases List.mem_append.1 h with h | h
 ·exact h
 ·exfalso
  rw [List.pairwise_append, List.pairwise_cons] at hp
  rcases List.mem_cons.1 h with h | h
  ·rw [h] at hlt; unfold lexP at hlt; omega
  ·have := hp.2.1.1 q' h
   unfold lexP at this hlt; omega
def asg42 : ACode := (Sq [Mv 8 13]
 (.region [Mv 9 14]))
def body42 : ACode := (.block 1 (Sq [Mv 15 8,Ld 16 6,Bn .neq 17 15 16,Mv 18 17,Og 19 18 false (.mov (.t 9)),Og 20 18 false (.load (.t 7) none),Og 21 18 false (.bin .geq (.t 19) (.t 20)),Ob 22 (.pick (.t 18) (.c (.bool true)) (.t 21))]
 (.cond (.t 22) (.regionD [Ld 23 5,Bc .add 24 23 1,Mv 25 8,Mv 26 9,Ld 27 3,Bn .add 28 26 27,Sv 5 24 1,Sv 6 25 1,Sv 7 28 1] [(3, 5), (3, 6)])
 (.skip))))
def grp (z : Nat) (st : Nat × Int × Nat) (q : Nat × Nat) : Nat × Int × Nat := if (q.1 : Int) ≠ st.2.1 ∨ st.2.2 ≤ q.2 then (st.1 + 1, (q.1 : Int), q.2 + z) else st
def grpL (z : Nat) (l : List (Nat × Nat)) (st : Nat × Int × Nat) : Nat × Int × Nat := l.foldl (grp z) st
theorem grpL_len (z : Nat) : ∀ (l : List (Nat × Nat)) (st : Nat × Int × Nat), (grpL z l st).1 ≤ st.1 + l.length
 | [], st => Nat.le_refl _
 | q :: l, st => by
  have := grpL_len z l (grp z st q)
  have h2 : (grp z st q).1 ≤ st.1 + 1 := by unfold grp; split <;> simp
  show (grpL z l (grp z st q)).1 ≤ st.1 + (l.length + 1)
  omega
theorem grp_row {row : List Int} {z r : Nat} : ∀ (k i c : Nat) (la : Int) (n : Nat), (grpL z (plcF row z r k i) (c, la, n)).1 = c + scG (fun t => plcR row z (t : Int)) z k i (if la = r then n else 0) ∧ ((grpL z (plcF row z r k i) (c, la, n)).2.1 = la ∨ (grpL z (plcF row z r k i) (c, la, n)).2.1 = r)
 | 0, i, c, la, n => ⟨rfl, .inl rfl⟩
 | k + 1, i, c, la, n => by
  rw [plcF, scG]
  by_cases hp : plcR row z (i : Int) = true
  ·rw [if_pos hp]
   have hu : grpL z ((r, i) :: plcF row z r k (i + 1)) (c, la, n) = grpL z (plcF row z r k (i + 1)) (grp z (c, la, n) (r, i)) := rfl
   rw [hu]
   by_cases hc : (r : Int) ≠ la ∨ n ≤ i
   ·have hg : grp z (c, la, n) (r, i) = (c + 1, (r : Int), i + z) := by unfold grp; rw [if_pos hc]
    obtain ⟨a, b⟩ := grp_row k (i + 1) (c + 1) (r : Int) (i + z)
    rw [hg, a, if_pos rfl, if_pos ⟨by split <;> omega, hp⟩]
    exact ⟨by omega, .inr (b.elim id id)⟩
   ·have hg : grp z (c, la, n) (r, i) = (c, la, n) := by unfold grp; rw [if_neg hc]
    have e1 : la = r := Classical.byContradiction fun h => hc (.inl fun e => h e.symm)
    obtain ⟨a, b⟩ := grp_row k (i + 1) c la n
    rw [hg, a, if_pos e1, if_neg (by rintro ⟨h, _⟩; exact hc (.inr h))]
    exact ⟨rfl, b⟩
  ·rw [if_neg hp, if_neg (fun h => hp h.2)]
   exact grp_row k (i + 1) c la n
theorem grp_rows {z : Nat} : ∀ (s : List (List Int)) (k c : Nat) (la : Int) (n : Nat), la < k → (grpL z (plcs z (idsM s) k) (c, la, n)).1 = c + cntS z s
 | [], k, c, la, n, _ => rfl
 | row :: s, k, c, la, n, h => by
  have hu : grpL z (plcs z (idsM (row :: s)) k) (c, la, n) = grpL z (plcs z (idsM s) (k + 1)) (grpL z (plcF row z k (row.length + 1 - z) 0) (c, la, n)) := by
   show List.foldl _ _ (plcF row z k (row.length + 1 - z) 0 ++ plcs z (idsM s) (k + 1)) = _
   rw [List.foldl_append]; rfl
  obtain ⟨a, b⟩ := grp_row (row := row) (z := z) (r := k) (row.length + 1 - z) 0 c la n
  rw [if_neg (by omega)] at a
  obtain ⟨c', la', n'⟩ : Nat × Int × Nat := grpL z (plcF row z k (row.length + 1 - z) 0) (c, la, n)
  rw [hu]
  generalize grpL z (plcF row z k (row.length + 1 - z) 0) (c, la, n) = st at a b
  obtain ⟨c1, la1, n1⟩ := st
  dsimp only at a b
  rw [grp_rows s (k + 1) c1 la1 n1 (by push_cast; omega), a]
  show _ = c + cntS z (row :: s)
  unfold cntS
  rw [List.map_cons, List.sum_cons]
  show _ = c + (cntR z row + _)
  unfold cntR
  omega
theorem plcF_len {row : List Int} {z r : Nat} : ∀ (k i : Nat), (plcF row z r k i).length ≤ k
 | 0, i => Nat.le_refl _
 | k + 1, i => by
  have := plcF_len (row := row) (z := z) (r := r) k (i + 1)
  rw [plcF]; split
  ·rw [List.length_cons]; omega
  ·omega
theorem plcs_len {z : Nat} : ∀ (rows : List Rw) (k : Nat), (∀ p ∈ rows, p.2.length ≤ 1000) → (plcs z rows k).length ≤ 1001 * rows.length
 | [], k, _ => Nat.le_refl _
 | p :: r, k, h => by
  have h1 := plcF_len (row := p.2) (z := z) (r := k) (p.2.length + 1 - z) 0
  have h2 := plcs_len (z := z) r (k + 1) fun q hq => h q (by simp [hq])
  have h3 := h p (by simp)
  rw [plcs, List.length_append, List.length_cons]; omega
def bG (a z : Nat) (st : Nat × Int × Nat) (l : List Blk) : List Blk := .live [I64 (z : Int)] 1 :: .live [I64 (st.1 : Int)] 1 :: .live [I64 st.2.1] 1 :: .live [I64 (st.2.2 : Int)] 1 :: .live [.ptr a 0 0] 1 :: .live [I64 (z : Int)] 1 :: l
theorem groups_range {a : Nat} {rows : List Rw} {z : Nat} (hz : 1 ≤ z) (hz2 : z ≤ 1000) (hlen : rows.length ≤ 1000) (hrl : ∀ p ∈ rows, p.2.length ≤ 1000) (bl : List Blk) (tk : List (Nat × Nat)) (hF : HF a rows ⟨bl, tk⟩)
  (env : Nat → AV) (v3 : env 3 = .ptr bl.length 0 0) (v5 : env 5 = .ptr (bl.length + 1) 0 0) (v6 : env 6 = .ptr (bl.length + 2) 0 0) (v7 : env 7 = .ptr (bl.length + 3) 0 0)
  (v12 : env 12 = .fn 91 [] [.ptr (bl.length + 4) 0 0, .ptr (bl.length + 5) 0 0]) (Q : Ex → St → Prop)
  (hQ : Q .nxt ⟨env, ⟨bl ++ bG a z (grpL z (plcs z rows 0) (0, -1, 0)) [.dead], tk⟩⟩) :
  @WL ft (.range (.t 12) [13, 14] asg42 body42) ⟨env, ⟨bl ++ bG a z (0, -1, 0) [], tk⟩⟩ ⟨Q⟩ := by
 have hpl : ∀ q ∈ plcs z rows 0, q.2 ≤ 1000 := fun q hq => by
  obtain ⟨p, _, h2, h3, _⟩ := plcs_mem hq
  have := hrl p (List.mem_of_getElem? h2)
  omega
 have hpn := plcs_len (z := z) rows 0 hrl
 refine WL_range_of (g := 91) (first := []) (cap := [.ptr (bl.length + 4) 0 0, .ptr (bl.length + 5) 0 0]) (by show env 12 = _; exact v12) ?_
 have hl6 : (bl ++ bG a z (0, -1, 0) []).length = bl.length + 6 := by rw [List.length_append]; rfl
 dsimp only
 rw [hl6, List.nil_append, List.append_assoc]
 show WR ft (.f 91) [.yld (bl.length + 6), .ptr (bl.length + 4) 0 0, .ptr (bl.length + 5) 0 0] ⟨bl ++ bG a z (0, -1, 0) [.lp env [13, 14] asg42 body42 true none], tk⟩ _
 refine places_sq (a := a) (rows := rows) (z := z) hz hz2 hlen hrl (fun ys m => ∃ dn, plcs z rows 0 = dn ++ ys ∧ ∃ env', (∀ t, t = 3 ∨ t = 5 ∨ t = 6 ∨ t = 7 → env' t = env t) ∧ m = ⟨bl ++ bG a z (grpL z dn (0, -1, 0)) [.lp env' [13, 14] asg42 body42 true none], tk⟩)
  (fun m => False) ?_ ?_ _ ⟨[], rfl, env, fun _ _ => rfl, rfl⟩ _ ?_ ?_
 ·rintro ys m ⟨dn, _, env', _, rfl⟩
  obtain ⟨⟨rv, hold, mp, vn, t2, ha⟩, hr⟩ := hF
  exact ⟨⟨⟨rv, hold, mp, vn, t2, gB ha _⟩, fun p hp => gB (hr p hp) _⟩, gA bl _ 4, gA bl _ 5⟩
 ·rintro r s ys m K' hrlt ⟨dn, hdn, env', hev, rfl⟩ hk hs
  have hmem : (r, s) ∈ plcs z rows 0 := by rw [hdn]; simp
  have hs1000 : s ≤ 1000 := hpl _ hmem
  have hdl : dn.length ≤ 1001 * rows.length := by
   have := congrArg List.length hdn
   rw [List.length_append] at this; omega
  have hcl := grpL_len z dn (0, -1, 0)
  have e3 : env' 3 = .ptr bl.length 0 0 := (hev 3 (by simp)).trans v3
  have e5 : env' 5 = .ptr (bl.length + 1) 0 0 := (hev 5 (by simp)).trans v5
  have e6 : env' 6 = .ptr (bl.length + 2) 0 0 := (hev 6 (by simp)).trans v6
  have e7 : env' 7 = .ptr (bl.length + 3) 0 0 := (hev 7 (by simp)).trans v7
  have hstep : grpL z (dn ++ [(r, s)]) (0, -1, 0) = grp z (grpL z dn (0, -1, 0)) (r, s) := by
   show List.foldl _ _ (dn ++ [(r, s)]) = _
   rw [List.foldl_append]; rfl
  generalize grpL z dn (0, -1, 0) = st at *
  obtain ⟨c, la, n⟩ := st
  dsimp only at hcl
  refine WR_yld (ft := ft) (gA bl _ 6) rfl ?_
  simp only [go_sem, Nat.reduceEqDiff, Nat.reduceAdd, Nat.reduceLT, Nat.reduceLeDiff, reduceIte, asg42, puts]
  refine YBegin_lp (ft := ft) (gA bl _ 6) ?_
  dsimp only
  rw [sA]
  show W ft body42 _ _
  unfold body42
  have w1 : IntKind.i64.wrap ((c : Int) + 1) = ((c + 1 : Nat) : Int) := wrap_n1 c (by omega)
  have w2 : IntKind.i64.wrap ((s : Int) + (z : Int)) = ((s + z : Nat) : Int) := by rw [wrap_i64 _ (by omega) (by omega)]; omega
  have a1 : apart (.ptr bl.length 0 0) (.ptr (bl.length + 1) 0 0) = true := by rw [apart_pp]; simp
  have a2 : apart (.ptr bl.length 0 0) (.ptr (bl.length + 2) 0 0) = true := by rw [apart_pp]; simp
  have hfin : ∀ (e' : Nat → AV) (st' : Nat × Int × Nat), (∀ t, t = 3 ∨ t = 5 ∨ t = 6 ∨ t = 7 → e' t = env' t) → grp z (c, la, n) (r, s) = st' → K' (.bool true) ⟨bl ++ bG a z st' [.lp e' [13, 14] asg42 body42 true none], tk⟩ := fun e' st' h1 h2 => hk _ ⟨dn ++ [(r, s)], by rw [hdn]; simp, e', fun t ht => (h1 t ht).trans (hev t ht), by rw [hstep, h2]⟩
  have hslot : ∀ t, t = 3 ∨ t = 5 ∨ t = 6 ∨ t = 7 → t ≠ 8 ∧ t ≠ 9 ∧ t ≠ 13 ∧ t ≠ 14 ∧ t ≠ 15 ∧ t ≠ 16 ∧ t ≠ 17 ∧ t ≠ 18 ∧ t ≠ 19 ∧ t ≠ 20 ∧ t ≠ 21 ∧ t ≠ 22 ∧ t ≠ 23 ∧ t ≠ 24 ∧ t ≠ 25 ∧ t ≠ 26 ∧ t ≠ 27 ∧ t ≠ 28 := fun t ht => by omega
  cases c1 : ((r : Int) != la)
  ·have c1' : (r : Int) = la := by simpa using c1
   cases c2 : decide ((n : Int) ≤ (s : Int))
   ·have c2' := of_decide_eq_false c2
    simp only [go_sem, Nat.reduceEqDiff, Nat.reduceAdd, Nat.reduceLT, Nat.reduceLeDiff, reduceIte, e3, e5, e6, e7, bG, gA, gA0, List.getElem?_cons_zero, List.getElem?_cons_succ, List.set, sA, sA0, c1, c2]
    refine YEnd_lp (gA bl _ 6) ?_
    dsimp only
    rw [sA]
    refine hfin _ (c, la, n) (fun t ht => ?_) (by unfold grp; rw [if_neg (fun h => h.elim (fun h => h c1') fun h => by dsimp only at h; omega)])
    obtain ⟨k8, k9, k13, k14, k15, k16, k17, k18, k19, k20, k21, k22, k23, k24, k25, k26, k27, k28⟩ := hslot t ht
    simp only [upd, k8, k9, k13, k14, k15, k16, k17, k18, k19, k20, k21, k22, k23, k24, k25, k26, k27, k28, if_false]
   ·have c2' := of_decide_eq_true c2
    simp only [go_sem, Nat.reduceEqDiff, Nat.reduceAdd, Nat.reduceLT, Nat.reduceLeDiff, reduceIte, e3, e5, e6, e7, bG, gA, gA0, List.getElem?_cons_zero, List.getElem?_cons_succ, List.set, sA, sA0, c1, c2, w1, w2, chkAll_cons, a1, a2]
    refine YEnd_lp (gA bl _ 6) ?_
    dsimp only
    rw [sA]
    refine hfin _ (c + 1, (r : Int), s + z) (fun t ht => ?_) (by unfold grp; rw [if_pos (.inr (by dsimp only; omega))])
    obtain ⟨k8, k9, k13, k14, k15, k16, k17, k18, k19, k20, k21, k22, k23, k24, k25, k26, k27, k28⟩ := hslot t ht
    simp only [upd, k8, k9, k13, k14, k15, k16, k17, k18, k19, k20, k21, k22, k23, k24, k25, k26, k27, k28, if_false]
  ·have c1' : (r : Int) ≠ la := by simpa using c1
   simp only [go_sem, Nat.reduceEqDiff, Nat.reduceAdd, Nat.reduceLT, Nat.reduceLeDiff, reduceIte, e3, e5, e6, e7, bG, gA, gA0, List.getElem?_cons_zero, List.getElem?_cons_succ, List.set, sA, sA0, c1, w1, w2, chkAll_cons, a1, a2]
   refine YEnd_lp (gA bl _ 6) ?_
   dsimp only
   rw [sA]
   refine hfin _ (c + 1, (r : Int), s + z) (fun t ht => ?_) (by unfold grp; rw [if_pos (.inl c1')])
   obtain ⟨k8, k9, k13, k14, k15, k16, k17, k18, k19, k20, k21, k22, k23, k24, k25, k26, k27, k28⟩ := hslot t ht
   simp only [upd, k8, k9, k13, k14, k15, k16, k17, k18, k19, k20, k21, k22, k23, k24, k25, k26, k27, k28, if_false]
 ·rintro m' ⟨dn, hdn, env', hev, rfl⟩
  rw [List.append_nil] at hdn
  refine RgEnd_lp (gA bl _ 6) ?_
  dsimp only
  rw [sA]
  rw [← hdn]
  exact hQ
 ·rintro m' hf
  exact hf.elim
theorem groups_HS {fr : List (Nat × Blk)} {a : Nat} {rv : AV} {hold : Int} {S : HZ} {N : Nat} {bl : List Blk} (h : HS fr a rv hold S bl) (hb : HB S N) {z : Nat} (hz : 1 ≤ z) (hz2 : z ≤ 1000) (tk : List (Nat × Nat)) (K : AV → Mem → Prop)
  (hK : ∀ ext, K (I64 (cntS z S.seats : Nat)) ⟨bl ++ ext, tk⟩) : WR ft (.f 42) [.ptr a 0 0, I64 (z : Int)] ⟨bl, tk⟩ K := by
 obtain ⟨mid, rows, ords, vn, hw, hv, e1, e2⟩ := h.ex
 have hlen : rows.length ≤ 6 := by rw [← List.length_map (f := Prod.snd), e1]; exact hb.len
 have hrl : ∀ p ∈ rows, p.2.length ≤ 1000 := fun p hp => by
  have := hb.row p.2 (by rw [← e1]; exact List.mem_map.2 ⟨p, hp, rfl⟩)
  omega
 rw [WR_f ft42 rfl]
 simp only [c42, r42]
 simp only [go_sem, Nat.reduceEqDiff, Nat.reduceAdd, Nat.reduceLT, Nat.reduceLeDiff, reduceIte, WB60, List.append_assoc, List.cons_append, List.nil_append, gA, gA0, sA, sA0, List.length_append, List.length_cons, List.length_nil, Nat.add_assoc, List.getElem?_cons_zero, List.getElem?_cons_succ, List.set_cons_zero, List.set_cons_succ]
 show WR ft (.f 60) _ _ _
 refine places_W _ rfl rfl _ _ _ _ ?_
 simp only [go_sem, Nat.reduceEqDiff, Nat.reduceAdd, Nat.reduceLT, Nat.reduceLeDiff, reduceIte, List.append_assoc, List.cons_append, List.nil_append, List.length_append, List.length_cons, List.length_nil, Nat.add_assoc]
 refine groups_range hz hz2 (by omega) hrl bl tk (hw.hf tk) _ rfl rfl rfl rfl rfl _ ?_
 simp only [go_sem, Nat.reduceEqDiff, Nat.reduceAdd, Nat.reduceLT, Nat.reduceLeDiff, reduceIte, bG, gA, gA0, List.getElem?_cons_zero, List.getElem?_cons_succ]
 have hg : (grpL z (plcs z rows 0) (0, -1, 0)).1 = cntS z S.seats := by
  rw [plcs_ids, grp_rows _ 0 0 (-1) 0 (by decide), e1, Nat.zero_add]
 rw [← hg] at hK
 exact hK _
def grpE (h : Hl) (l : List Cl) (m z : Int) : Int := if lisE h l m = 0 then (if szR z = true then 0 else 1) else lisE h l m
def grpM (h : Hl) (l : List Cl) (m z : Int) : Int := if grpE h l m z = 0 then (cntS z.toNat (afterM h l m).seats : Nat) else 0
theorem Groups_ok (h : Hl) (l : List Cl) (m z : Int) : RV ft 23 [encH h, encCs l, I64 m, I64 z] (.tup [I64 (grpM h l m z), I64 (grpE h l m z)]) := by
 refine RV_of ft23 rfl ?_
 simp only [c23, r23]
 simp only [go_sem, Nat.reduceEqDiff, Nat.reduceAdd, Nat.reduceLT, Nat.reduceLeDiff, reduceIte, HEta, WB31]
 show WR ft (.f 31) _ _ _
 refine listen_W h l m _ _ (fun he bl' tk => ?_) fun he v bl' tk hp => ?_
 ·have hne : (lisE h l m != 0) = true := by simpa using he
  have hE : grpE h l m z = lisE h l m := by unfold grpE; rw [if_neg he]
  have hM : grpM h l m z = 0 := by unfold grpM; rw [hE, if_neg he]
  rw [hE, hM]
  simp only [go_sem, Nat.reduceEqDiff, Nat.reduceAdd, Nat.reduceLT, Nat.reduceLeDiff, reduceIte, gA0, List.cons_append, List.nil_append, List.getElem?_cons_zero, hne]
 ·have bnz : ((0 : Int) != 0) = false := rfl
  have hI := isSize_ok z
  have hB := hp.box
  obtain ⟨a, mid, rows, ords, vn, t, ev, hva, hw, hv, _⟩ := hp
  obtain ⟨hvc, hvs⟩ : vn.cells = [vn] ∧ vn.solid = true := by
   rcases hv with ⟨_, e⟩ | ⟨_, id, e, _⟩ <;> rw [e] <;> exact ⟨rfl, rfl⟩
  subst ev
  unfold grpM grpE
  rw [if_pos he]
  cases hn : szR z
  ·rw [hn] at hI
   simp only [go_sem, Nat.reduceEqDiff, Nat.reduceAdd, Nat.reduceLT, Nat.reduceLeDiff, reduceIte, bnz, WB39, WVH_eq hI, true_and, hvc, hvs, gA0, sA0, List.getElem?_cons_zero, List.set_cons_zero]
   rfl
  ·rw [hn] at hI
   obtain ⟨z1, z2⟩ := inR_iff (show inR z 1 12 = true from hn)
   obtain ⟨zn, rfl⟩ : ∃ zn : Nat, z = zn := ⟨z.toNat, by omega⟩
   simp only [go_sem, Nat.reduceEqDiff, Nat.reduceAdd, Nat.reduceLT, Nat.reduceLeDiff, reduceIte, bnz, WB39, WVH_eq hI, true_and, hvc, hvs, gA0, sA0, List.getElem?_cons_zero, List.set_cons_zero, WB42]
   show WR ft (.f 42) _ _ _
   refine groups_HS hB (after_HB he) (by omega) (by omega) tk _ fun ext => ?_
   rw [Int.toNat_natCast]
   simp only [go_sem, Nat.reduceEqDiff, Nat.reduceAdd, Nat.reduceLT, Nat.reduceLeDiff, reduceIte, if_true]
end Go.Ab.T
end
