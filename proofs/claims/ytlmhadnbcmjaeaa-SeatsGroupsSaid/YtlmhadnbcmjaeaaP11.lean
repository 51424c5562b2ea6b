/-
 A part of the proofs over this seat.
 (The texts KhM10 KhM11 KhK31, one behind the other.)
-/
import Derived.Test.YtlmhadnbcmjaeaaP9
set_option linter.unusedSimpArgs false
set_option linter.unusedVariables false
set_option linter.unusedSectionVars false
section
namespace Go.Ab.T
def scG (plc : Nat → Bool) (z : Nat) : Nat → Nat → Nat → Nat
 | 0, _, _ => 0
 | k + 1, i, nx => if nx ≤ i ∧ plc i = true then 1 + scG plc z k (i + 1) (i + z) else scG plc z k (i + 1) nx
theorem scG_le (plc : Nat → Bool) (z : Nat) : ∀ (k i nx nx' : Nat), nx ≤ i → nx' ≤ i → scG plc z k i nx = scG plc z k i nx'
 | 0, _, _, _, _, _ => rfl
 | k + 1, i, nx, nx', h, h' => by
  rw [scG, scG]
  by_cases hp : plc i = true
  ·rw [if_pos ⟨h, hp⟩, if_pos ⟨h', hp⟩]
  ·rw [if_neg (fun e => hp e.2), if_neg (fun e => hp e.2)]
   exact scG_le plc z k (i + 1) nx nx' (by omega) (by omega)
theorem scG_skip (plc : Nat → Bool) (z : Nat) : ∀ (j k i nx : Nat), (∀ t, t < j → plc (i + t) = false ∨ i + t < nx) → scG plc z (j + k) i nx = scG plc z k (i + j) nx
 | 0, k, i, nx, _ => by rw [Nat.zero_add, Nat.add_zero]
 | j + 1, k, i, nx, h => by
  rw [show j + 1 + k = (j + k) + 1 by omega, scG, if_neg (by
   have := h 0 (by omega)
   rw [Nat.add_zero] at this
   rintro ⟨a, b⟩
   rcases this with e | e
   ·rw [e] at b; cases b
   ·omega), scG_skip plc z j k (i + 1) nx (fun t ht => by have := h (t + 1) (by omega); rwa [show i + (t + 1) = i + 1 + t by omega] at this)]
  congr 1; omega
theorem scG_congr {plc plc' : Nat → Bool} {z : Nat} : ∀ (k i nx : Nat), (∀ t, i ≤ t → plc t = plc' t) → scG plc z k i nx = scG plc' z k i nx
 | 0, _, _, _ => rfl
 | k + 1, i, nx, h => by
  rw [scG, scG, h i (Nat.le_refl i), scG_congr k (i + 1) (i + z) (fun t ht => h t (by omega)), scG_congr k (i + 1) nx (fun t ht => h t (by omega))]
theorem scG_fill {plc plc' : Nat → Bool} {z p : Nat} (hz : 1 ≤ z) (h1 : ∀ i, i < p → plc' i = plc i) (h1' : ∀ i, i < p → plc i = true → i + z ≤ p) (hp : plc p = true) (h2 : ∀ i, p ≤ i → i < p + z → plc' i = false) (h3 : ∀ i, p + z ≤ i → plc' i = plc i) : ∀ (d i nx k : Nat), i + d = p → nx ≤ p → scG plc z (d + (z + k)) i nx = 1 + scG plc' z (d + (z + k)) i nx
 | 0, i, nx, k, hi, hn => by
  obtain rfl : i = p := by omega
  have e1 : scG plc z (0 + (z + k)) i nx = 1 + scG plc z (z - 1 + k) (i + 1) (i + z) := by
   rw [show 0 + (z + k) = (z - 1 + k) + 1 by omega, scG, if_pos ⟨hn, hp⟩]
  have e2 : scG plc z (z - 1 + k) (i + 1) (i + z) = scG plc z k (i + z) (i + z) := by
   rw [scG_skip plc z (z - 1) k (i + 1) (i + z) (fun t ht => .inr (by omega))]
   congr 1; omega
  have e3 : scG plc' z (0 + (z + k)) i nx = scG plc' z k (i + z) nx := by
   rw [Nat.zero_add, scG_skip plc' z z k i nx (fun t ht => .inl (h2 (i + t) (by omega) (by omega)))]
  rw [e1, e2, e3, scG_le plc z k (i + z) (i + z) nx (Nat.le_refl _) (by omega), scG_congr k (i + z) nx fun t ht => (h3 t ht).symm]
 | d + 1, i, nx, k, hi, hn => by
  have e : d + 1 + (z + k) = (d + (z + k)) + 1 := by omega
  rw [e, scG, scG, h1 i (by omega)]
  by_cases hc : nx ≤ i ∧ plc i = true
  ·rw [if_pos hc, if_pos hc, scG_fill hz h1 h1' hp h2 h3 d (i + 1) (i + z) k (by omega) (h1' i (by omega) hc.2)]
  ·rw [if_neg hc, if_neg hc, scG_fill hz h1 h1' hp h2 h3 d (i + 1) nx k (by omega) hn]
theorem scG_zero {plc : Nat → Bool} {z : Nat} : ∀ (k i nx : Nat), (∀ t, i ≤ t → t < i + k → plc t = false) → scG plc z k i nx = 0
 | 0, _, _, _ => rfl
 | k + 1, i, nx, h => by
  rw [scG, if_neg (fun e => by rw [h i (Nat.le_refl i) (by omega)] at e; cases e.2)]
  exact scG_zero k (i + 1) nx fun t a b => h t (by omega) (by omega)
def cntR (z : Nat) (row : List Int) : Nat := scG (fun i => plcR row z (i : Int)) z (row.length + 1 - z) 0 0
def cntS (z : Nat) (s : List (List Int)) : Nat := (s.map (cntR z)).sum
theorem plcR_len {row : List Int} {z i : Nat} (hz : 1 ≤ z) (h : row.length + 1 - z ≤ i) : plcR row z (i : Int) = false := by
 cases hp : plcR row z (i : Int)
 ·rfl
 ·have := plcR_fit hz hp; omega
theorem scG_more {plc : Nat → Bool} {z : Nat} : ∀ (k j i nx : Nat), (∀ t, i + k ≤ t → plc t = false) → scG plc z (k + j) i nx = scG plc z k i nx
 | 0, j, i, nx, h => by rw [Nat.zero_add]; exact scG_zero j i nx fun t a _ => h t a
 | k + 1, j, i, nx, h => by
  rw [show k + 1 + j = (k + j) + 1 by omega, scG, scG, scG_more k j (i + 1) (i + z) (fun t ht => h t (by omega)), scG_more k j (i + 1) nx (fun t ht => h t (by omega))]
theorem freeR_get {row : List Int} {i : Nat} : freeR row (i : Int) = true ↔ row[i]? = some (-1) := by
 unfold freeR
 rw [Bool.and_eq_true, Bool.and_eq_true, decide_eq_true_eq, decide_eq_true_eq, beq_iff_eq, Int.toNat_natCast]
 constructor
 ·rintro ⟨_, a, b⟩
  have hlt : i < row.length := by omega
  rw [getD_lt hlt] at b
  rw [List.getElem?_eq_getElem hlt, b]
 ·intro h
  obtain ⟨hlt, e⟩ := List.getElem?_eq_some_iff.1 h
  exact ⟨by omega, by omega, by rw [getD_lt hlt]; exact e⟩
theorem plcR_iff {row : List Int} : ∀ {z i : Nat}, plcR row z (i : Int) = true ↔ ∀ t, i ≤ t → t < i + z → row[t]? = some (-1)
 | 0, i => ⟨fun _ t a b => by omega, fun _ => rfl⟩
 | z + 1, i => by
  rw [plcR, Bool.and_eq_true, freeR_get, show ((i : Int) + 1) = ((i + 1 : Nat) : Int) by omega, plcR_iff]
  constructor
  ·rintro ⟨a, b⟩ t h1 h2
   by_cases e : t = i
   ·rw [e]; exact a
   ·exact b t (by omega) (by omega)
  ·intro h
   exact ⟨h i (Nat.le_refl i) (by omega), fun t a b => h t (by omega) (by omega)⟩
theorem cntR_fill {row : List Int} {z p : Nat} (hz : 1 ≤ z) (hp : plcR row z (p : Int) = true) (hs : p = 0 ∨ row[p - 1]? ≠ some (-1)) {n : Int} (hn : n ≠ -1) : cntR z row = 1 + cntR z (fillR row p z n) := by
 have hfit := plcR_fit hz hp
 have hget := fun i => fillR_get row p n z i hfit
 obtain ⟨k, hk⟩ : ∃ k, row.length + 1 = p + (z + k) := ⟨row.length + 1 - (p + z), by omega⟩
 have hlen : (fillR row p z n).length = row.length := fillR_len _ _ _ _
 have e1 : cntR z row = scG (fun i => plcR row z (i : Int)) z (p + (z + k)) 0 0 := by
  unfold cntR
  rw [← scG_more (row.length + 1 - z) z 0 0 (fun t ht => plcR_len hz (by omega))]
  congr 1; omega
 have e2 : cntR z (fillR row p z n) = scG (fun i => plcR (fillR row p z n) z (i : Int)) z (p + (z + k)) 0 0 := by
  unfold cntR
  rw [hlen, ← scG_more (row.length + 1 - z) z 0 0 (fun t ht => plcR_len hz (by rw [hlen]; omega))]
  congr 1; omega
 rw [e1, e2]
 refine scG_fill hz (fun i hi => ?_) (fun i hi h => ?_) hp (fun i h1 h2 => ?_) (fun i hi => ?_) p 0 0 k (by omega) (Nat.zero_le _)
 ·rw [Bool.eq_iff_iff, plcR_iff, plcR_iff]
  constructor
  ·intro h t a b
   have := h t a b
   rw [hget] at this
   by_cases hc : p ≤ t ∧ t < p + z
   ·rw [if_pos hc] at this; exact absurd (Option.some.inj this) hn
   ·rwa [if_neg hc] at this
  ·intro h t a b
   have := h t a b
   rw [hget, if_neg]
   ·exact this
   ·rintro ⟨c, _⟩
    rcases hs with e | e
    ·omega
    ·exact e (h (p - 1) (by omega) (by omega))
 ·have h' := plcR_iff.1 h
  rcases hs with e | e
  ·omega
  ·refine Classical.byContradiction fun hc => ?_
   exact e (h' (p - 1) (by omega) (by omega))
 ·cases hc : plcR (fillR row p z n) z (i : Int)
  ·rfl
  ·have := plcR_iff.1 hc i (Nat.le_refl i) (by omega)
   rw [hget, if_pos ⟨h1, h2⟩] at this
   exact absurd (Option.some.inj this) hn
 ·rw [Bool.eq_iff_iff, plcR_iff, plcR_iff]
  constructor
  ·intro h t a b
   have := h t a b
   rwa [hget, if_neg (by omega)] at this
  ·intro h t a b
   rw [hget, if_neg (by omega)]; exact h t a b
theorem cntS_set {z : Nat} : ∀ {s : List (List Int)} {r : Nat} {row row' : List Int}, s[r]? = some row → cntR z row = 1 + cntR z row' → cntS z s = 1 + cntS z (s.set r row')
 | x :: s, 0, row, row', h, e => by
  rw [List.getElem?_cons_zero] at h
  cases h
  unfold cntS
  rw [List.set_cons_zero, List.map_cons, List.map_cons, List.sum_cons, List.sum_cons, e]; omega
 | x :: s, r + 1, row, row', h, e => by
  rw [List.getElem?_cons_succ] at h
  have ih := cntS_set (z := z) h e
  unfold cntS at ih ⊢
  rw [List.set_cons_succ, List.map_cons, List.map_cons, List.sum_cons, List.sum_cons, ih]; omega
 | [], r, row, row', h, _ => by cases h
def lexP (a b : Nat × Nat) : Prop := a.1 < b.1 ∨ (a.1 = b.1 ∧ a.2 < b.2)
theorem plcF_lex {row : List Int} {z r : Nat} : ∀ (k s : Nat), (plcF row z r k s).Pairwise lexP
 | 0, s => List.Pairwise.nil
 | k + 1, s => by
  rw [plcF]
  split
  ·rw [List.pairwise_cons]
   refine ⟨fun q hq => ?_, plcF_lex k (s + 1)⟩
   obtain ⟨a, b, _⟩ := (plcF_iff k (s + 1) q).1 hq
   exact .inr ⟨a.symm, by dsimp only; omega⟩
  ·exact plcF_lex k (s + 1)
theorem plcs_lex {z : Nat} (hz : 1 ≤ z) : ∀ (s : List (List Int)) (k : Nat), (plcs z (idsM s) k).Pairwise lexP
 | [], k => List.Pairwise.nil
 | r :: s, k => by
  show (plcF r z k (r.length + 1 - z) 0 ++ plcs z (idsM s) (k + 1)).Pairwise lexP
  rw [List.pairwise_append]
  refine ⟨plcF_lex _ _, plcs_lex hz s (k + 1), fun a ha b hb => ?_⟩
  obtain ⟨e, _⟩ := (plcF_iff _ _ _).1 ha
  obtain ⟨h1, _⟩ := (plcs_iff hz _ _ _).1 hb
  exact .inl (by omega)
theorem lex_before {l : List (Nat × Nat)} (hp : l.Pairwise lexP) {as bs : List (Nat × Nat)} {q q' : Nat × Nat} (e : l = as ++ q :: bs) (h : q' ∈ l) (hlt : lexP q' q) : q' ∈ as := by
 rw [e] at h hp
 rcases List.mem_append.1 h with h | h
 ·exact h
 ·exfalso
  rw [List.pairwise_append, List.pairwise_cons] at hp
  rcases List.mem_cons.1 h with h | h
  ·rw [h] at hlt; unfold lexP at hlt; omega
  ·have := hp.2.1.1 q' h
   unfold lexP at this hlt; omega
theorem run_start {row : List Int} : ∀ (p : Nat), row[p]? = some (-1) → ∃ q, q ≤ p ∧ (∀ t, q ≤ t → t ≤ p → row[t]? = some (-1)) ∧ (q = 0 ∨ row[q - 1]? ≠ some (-1))
 | 0, h => ⟨0, Nat.le_refl 0, fun t a b => by rw [show t = 0 by omega]; exact h, .inl rfl⟩
 | p + 1, h => by
  by_cases hp : row[p]? = some (-1)
  ·obtain ⟨q, a, b, c⟩ := run_start p hp
   refine ⟨q, by omega, fun t h1 h2 => ?_, c⟩
   by_cases e : t = p + 1
   ·rw [e]; exact h
   ·exact b t h1 (by omega)
  ·exact ⟨p + 1, Nat.le_refl _, fun t a b => by rw [show t = p + 1 by omega]; exact h, .inr hp⟩
theorem gapR_iff {row : List Int} {i z : Nat} : gapR row (i : Int) z = true ↔ (1 ≤ i ∧ row[i - 1]? = some (-1) ∧ ¬(2 ≤ i ∧ row[i - 2]? = some (-1))) ∨ (row[i + z]? = some (-1) ∧ row[i + z + 1]? ≠ some (-1)) := by
 have hneg : ∀ n : Int, n < 0 → freeR row n = false := fun n hn => by unfold freeR; rw [decide_eq_false (by omega)]; rfl
 unfold gapR
 rw [Bool.or_eq_true, Bool.and_eq_true, Bool.and_eq_true, Bool.not_eq_true', Bool.not_eq_true', show ((i : Int) + (z : Int)) = ((i + z : Nat) : Int) by omega, show (((i + z : Nat) : Int) + 1) = ((i + z + 1 : Nat) : Int) by omega, freeR_get, ← Bool.not_eq_true (freeR row ((i + z + 1 : Nat) : Int)), freeR_get]
 have h1 : (freeR row ((i : Int) - 1) = true ∧ freeR row ((i : Int) - 1 - 1) = false) ↔ (1 ≤ i ∧ row[i - 1]? = some (-1) ∧ ¬(2 ≤ i ∧ row[i - 2]? = some (-1))) := by
  by_cases i0 : i = 0
  ·rw [hneg _ (by omega)]
   constructor
   ·rintro ⟨h, _⟩; cases h
   ·rintro ⟨h, _⟩; omega
  ·rw [show ((i : Int) - 1) = ((i - 1 : Nat) : Int) by omega, freeR_get]
   by_cases i1 : i = 1
   ·rw [hneg _ (by omega)]
    exact ⟨fun h => ⟨by omega, h.1, fun h => by omega⟩, fun h => ⟨h.2.1, rfl⟩⟩
   ·rw [show (((i - 1 : Nat) : Int) - 1) = ((i - 2 : Nat) : Int) by omega, ← Bool.not_eq_true, freeR_get]
    exact ⟨fun h => ⟨by omega, h.1, fun h' => h.2 h'.2⟩, fun h => ⟨h.2.1, fun h' => h.2.2 ⟨by omega, h'⟩⟩⟩
 rw [h1]
theorem best_start {s : List (List Int)} {z : Nat} (hz : 1 ≤ z) {q : Nat × Nat} (h : bestS s z = some q) {row : List Int} (hr : s[q.1]? = some row) : q.2 = 0 ∨ row[q.2 - 1]? ≠ some (-1) := by
 have hpl := (bestS_some hz h).1
 obtain ⟨row', hr', hp⟩ := hpl
 rw [hr] at hr'
 cases hr'
 have hpi := plcR_iff.1 hp
 refine Classical.byContradiction fun hc => ?_
 have hc0 : q.2 ≠ 0 := fun e => hc (.inl e)
 have hc1 : row[q.2 - 1]? = some (-1) := Classical.byContradiction fun e => hc (.inr e)
 have hlex := plcs_lex hz s 0
 obtain ⟨t, t1, t2, t3⟩ := run_start (row := row) (q.2 - 1) hc1
 have hrun : ∀ u, t ≤ u → u < q.2 + z → row[u]? = some (-1) := fun u a b => by
  by_cases e : u ≤ q.2 - 1
  ·exact t2 u a e
  ·exact hpi u (by omega) b
 have hin : ∀ u, t ≤ u → u ≤ q.2 → (q.1, u) ∈ plcs z (idsM s) 0 := fun u a b => by
  rw [plcs_iff hz]
  exact ⟨Nat.zero_le _, row, by rw [Nat.sub_zero]; exact hr, plcR_iff.2 fun v c d => hrun v (by dsimp only at c; omega) (by dsimp only at d; omega)⟩
 unfold bestS bestM at h
 cases hf : (plcs z (idsM s) 0).find? (noGap (idsM s) z) with
 | none =>
  rw [hf, Option.none_or] at h
  cases hl : plcs z (idsM s) 0 with
  | nil => rw [hl] at h; cases h
  | cons a l =>
   rw [hl] at h hlex
   cases h
   have := hin (q.2 - 1) (by omega) (by omega)
   rw [hl] at this
   have := lex_before hlex (as := []) (bs := l) (q := q) rfl this (.inr ⟨rfl, by dsimp only; omega⟩)
   cases this
 | some q' =>
  rw [hf] at h
  cases h
  obtain ⟨hng, as, bs, e, hall⟩ := List.find?_eq_some_iff_append.1 hf
  rw [noGap_ids s z q hr, Bool.not_eq_true', ← Bool.not_eq_true, gapR_iff] at hng
  have hg2 : 2 ≤ q.2 ∧ row[q.2 - 2]? = some (-1) := Classical.byContradiction fun hh => hng (.inl ⟨by omega, hc1, hh⟩)
  have ht : t ≤ q.2 - 2 := by
   refine Classical.byContradiction fun hh => ?_
   have e1 : t = q.2 - 1 := by omega
   rcases t3 with e2 | e2
   ·omega
   ·rw [e1, show q.2 - 1 - 1 = q.2 - 2 by omega] at e2
    exact e2 hg2.2
  have hbef := lex_before hlex e (hin t (Nat.le_refl t) (by omega)) (.inr ⟨rfl, by dsimp only; omega⟩)
  have := hall _ hbef
  rw [noGap_ids s z (q.1, t) hr, Bool.not_not, gapR_iff] at this
  rcases this with ⟨a, b, _⟩ | ⟨_, b⟩
  ·dsimp only at a b
   rcases t3 with e2 | e2
   ·omega
   ·exact e2 b
  ·dsimp only at b
   exact b (hrun (t + z + 1) (by omega) (by omega))
theorem cntS_ask {s : List (List Int)} {z : Nat} (hz : 1 ≤ z) {q : Nat × Nat} (h : bestS s z = some q) {n : Int} (hn : n ≠ -1) : cntS z s = 1 + cntS z (seatM s q.1 q.2 z n) := by
 obtain ⟨row, hr, hp⟩ := (bestS_some hz h).1
 unfold seatM
 rw [List.getD_eq_getElem?_getD, hr, Option.getD_some]
 exact cntS_set hr (cntR_fill hz hp (best_start hz h hr) hn)
theorem cntR_zero {row : List Int} {z : Nat} (h : ∀ i : Nat, plcR row z (i : Int) = false) : cntR z row = 0 := scG_zero _ _ _ fun t _ _ => h t
theorem cntS_none {z : Nat} (hz : 1 ≤ z) {s : List (List Int)} (h : bestS s z = none) : cntS z s = 0 := by
 have h1 := (bestS_none hz).1 h
 unfold cntS
 have : s.map (cntR z) = s.map fun _ => 0 := by
  apply List.map_congr_left
  intro row hr
  obtain ⟨i, hi, rfl⟩ := List.getElem_of_mem hr
  refine cntR_zero fun j => ?_
  cases hp : plcR s[i] z (j : Int)
  ·rfl
  ·exact absurd ⟨s[i], List.getElem?_eq_getElem hi, hp⟩ (h1 i j)
 rw [this]
 clear this h1 h
 induction s with
 | nil => rfl
 | cons x r ih => rw [List.map_cons, List.sum_cons, ih]
theorem cntS_pos {z : Nat} (hz : 1 ≤ z) {s : List (List Int)} : 0 < cntS z s ↔ (bestS s z).isSome = true := by
 cases h : bestS s z with
 | none => rw [cntS_none hz h]; decide
 | some q =>
  rw [cntS_ask hz h (n := 0) (by decide)]
  exact ⟨fun _ => rfl, fun _ => by omega⟩
end Go.Ab.T
end
section
namespace Go.Ab.T
theorem best_mono {s : List (List Int)} {j k : Nat} (hj : 1 ≤ j) (hjk : j ≤ k) (h : (bestS s k).isSome = true) : (bestS s j).isSome = true := by
 cases hk : bestS s k with
 | none => rw [hk] at h; cases h
 | some q =>
  obtain ⟨row, hr, hp⟩ := (bestS_some (by omega) hk).1
  cases hb : bestS s j with
  | some _ => rfl
  | none =>
   exact absurd ⟨row, hr, plcR_iff.2 fun t a b => plcR_iff.1 hp t a (by omega)⟩ ((bestS_none hj).1 hb q.1 q.2)
theorem larF_spec (s : List (List Int)) : ∀ N, larF s N ≤ N ∧ (0 < larF s N → (bestS s (larF s N)).isSome = true) ∧ ∀ k, larF s N < k → k ≤ N → bestS s k = none
 | 0 => ⟨Nat.le_refl 0, (fun h => absurd h (Nat.lt_irrefl 0)), (fun k a b => by have h0 : larF s 0 = 0 := rfl; omega)⟩
 | N + 1 => by
  obtain ⟨a, b, c⟩ := larF_spec s N
  rw [larF]
  by_cases h : (bestS s (N + 1)).isSome = true
  ·rw [if_pos h]; exact ⟨Nat.le_refl _, fun _ => h, fun k d e => by omega⟩
  ·rw [if_neg h]
   refine ⟨by omega, b, fun k d e => ?_⟩
   by_cases hk : k = N + 1
   ·rw [hk]
    cases hb : bestS s (N + 1) with
    | none => rfl
    | some q => rw [hb] at h; exact absurd rfl h
   ·exact c k d (by omega)
theorem lar_iff {s : List (List Int)} {z N : Nat} (hz : 1 ≤ z) (hzN : z ≤ N) : 0 < cntS z s ↔ z ≤ larF s N := by
 obtain ⟨a, b, c⟩ := larF_spec s N
 rw [cntS_pos hz]
 constructor
 ·intro h
  refine Classical.byContradiction fun hn => ?_
  rw [c z (by omega) hzN] at h; cases h
 ·intro h
  exact best_mono hz h (b (by omega))
def askC (m : Int) (z : Int) (i : Nat) : Cl := ⟨40 + i, m, 1, 40 + i, z⟩
def asksC (m z : Int) (n : Nat) : List Cl := (List.range n).map (askC m z)
theorem asks_succ (m z : Int) (n : Nat) : asksC m z (n + 1) = asksC m z n ++ [askC m z n] := by
 unfold asksC; rw [List.range_succ, List.map_append]; rfl
theorem asks_len (m z : Int) (n : Nat) : (asksC m z n).length = n := by unfold asksC; simp
theorem asks_mem {m z : Int} {n : Nat} {c : Cl} (h : c ∈ asksC m z n) : ∃ i, i < n ∧ c = askC m z i := by
 obtain ⟨i, hi, e⟩ := List.mem_map.1 h
 exact ⟨i, List.mem_range.1 hi, e.symm⟩
theorem asks_ok {m z : Int} {n : Nat} (hm : 0 ≤ m ∧ m ≤ 9999) (hz : 1 ≤ z ∧ z ≤ 12) (hn : n ≤ 50) : asc (asksC m z n) ∧ (∀ c ∈ asksC m z n, CV c ∧ c.at' = m ∧ c.kind = 1) ∧ noCl (asksC m z n) := by
 refine ⟨?_, fun c hc => ?_, fun x hx y hy e => ?_⟩
 ·unfold asc asksC
  rw [List.pairwise_map]
  refine List.pairwise_lt_range.imp fun {a b} hab => ?_
  unfold keyC askC; dsimp only; omega
 ·obtain ⟨i, hi, rfl⟩ := asks_mem hc
  refine ⟨⟨?_, ?_, ?_, ?_, hm.1, hm.2, .inl ⟨rfl, hz⟩⟩, rfl, rfl⟩ <;> (unfold askC; dsimp only; omega)
 ·obtain ⟨i, hi, rfl⟩ := asks_mem hx
  obtain ⟨j, hj, rfl⟩ := asks_mem hy
  have : i = j := by unfold askC at e; dsimp only at e; omega
  rw [this]
theorem ask_lk {S : HZ} {c : Cl} {k : Int} (hk : k ≠ c.order) : lkP (askM c S).ords k = lkP S.ords k := by
 unfold askM
 split
 ·rfl
 ·split
  ·dsimp only; rw [lkP_app, if_neg (fun e => hk e.symm), Option.or_none]
  ·dsimp only; rw [lkP_app, if_neg (fun e => hk e.symm), Option.or_none]
theorem ask_st {S : HZ} {c : Cl} {z : Nat} (hz : 1 ≤ z) (hcz : c.size = z) (h0 : 0 ≤ c.order) (hl : lkP S.ords c.order = none) : (0 < cntS z S.seats → (plcM (askM c S) c.order).st = 2 ∧ cntS z S.seats = 1 + cntS z (askM c S).seats) ∧ (cntS z S.seats = 0 → (plcM (askM c S) c.order).st = 1 ∧ cntS z (askM c S).seats = 0) := by
 have hzz : c.size.toNat = z := by omega
 cases hb : bestS S.seats z with
 | none =>
  have h0' := cntS_none hz hb
  refine ⟨fun h => by omega, fun h => ?_⟩
  unfold plcM askM
  rw [hl]
  dsimp only
  rw [hzz, hb]
  dsimp only
  rw [lkP_app, hl, Option.none_or, if_pos rfl]
  exact ⟨rfl, h0'⟩
 | some q =>
  have hpos := (cntS_pos hz).2 (by rw [hb]; rfl : (bestS S.seats z).isSome = true)
  refine ⟨fun _ => ?_, fun h => by omega⟩
  unfold plcM askM
  rw [hl]
  dsimp only
  rw [hzz, hb]
  dsimp only
  rw [lkP_app, hl, Option.none_or, if_pos rfl]
  exact ⟨rfl, cntS_ask hz hb (by omega)⟩
theorem asks_fold {m : Int} {z : Nat} (hz : 1 ≤ z) {S : HZ} (hno : ∀ i : Nat, lkP S.ords (40 + i) = none) : ∀ n, (cntS z ((asksC m z n).foldl (fun S c => askM c S) S).seats = cntS z S.seats - n) ∧ (∀ i, n ≤ i → lkP ((asksC m z n).foldl (fun S c => askM c S) S).ords (40 + i) = none) ∧ ∀ i, i < n → (i < cntS z S.seats → (plcM ((asksC m z n).foldl (fun S c => askM c S) S) (40 + i)).st = 2) ∧ (cntS z S.seats ≤ i → (plcM ((asksC m z n).foldl (fun S c => askM c S) S) (40 + i)).st = 1)
 | 0 => ⟨rfl, fun i _ => hno i, fun i h => by omega⟩
 | n + 1 => by
  obtain ⟨a, b, c⟩ := asks_fold hz hno n
  have hf : (asksC m z (n + 1)).foldl (fun S c => askM c S) S = askM (askC m z n) ((asksC m z n).foldl (fun S c => askM c S) S) := by rw [asks_succ, List.foldl_append]; rfl
  rw [hf]
  generalize (asksC m z n).foldl (fun S c => askM c S) S = T at a b c
  obtain ⟨d, e⟩ := ask_st (S := T) (c := askC m z n) hz rfl (by unfold askC; dsimp only; omega) (b n (Nat.le_refl n))
  have hlk : ∀ i : Nat, i ≠ n → lkP (askM (askC m z n) T).ords (40 + i) = lkP T.ords (40 + i) := fun i hi => ask_lk (by unfold askC; dsimp only; omega)
  refine ⟨?_, fun i hi => ?_, fun i hi => ?_⟩
  ·by_cases hp : 0 < cntS z T.seats
   ·have := (d hp).2; omega
   ·have := (e (by omega)).2; omega
  ·rw [hlk i (by omega)]; exact b i (by omega)
  ·by_cases hin : i = n
   ·subst hin
    refine ⟨fun h => (d (by omega)).1, fun h => (e (by omega)).1⟩
   ·have hpl : plcM (askM (askC m z n) T) (40 + i) = plcM T (40 + i) := by unfold plcM; rw [hlk i hin]
    rw [hpl]; exact c i (by omega)
end Go.Ab.T
end
section
namespace Go.Ab.T
set_option maxRecDepth 8000
set_option maxHeartbeats 4000000
def asg42 : ACode := (.seq (.region [Ob 8 (.mov (.t 13))])
 (.region [Ob 9 (.mov (.t 14))]))
def body42 : ACode := (.block 1 (.seq (.region [Ob 15 (.mov (.t 8)),Ob 16 (.load (.t 6) none),Ob 17 (.bin .neq (.t 15) (.t 16)),Ob 18 (.mov (.t 17)),Og 19 18 false (.mov (.t 9)),Og 20 18 false (.load (.t 7) none),Og 21 18 false (.bin .geq (.t 19) (.t 20)),Ob 22 (.pick (.t 18) (.c (.bool true)) (.t 21))])
 (.cond (.t 22) (.regionD [Ob 23 (.load (.t 5) none),Ob 24 (.bin .add (.t 23) (Ci 1)),Ob 25 (.mov (.t 8)),Ob 26 (.mov (.t 9)),Ob 27 (.load (.t 3) none),Ob 28 (.bin .add (.t 26) (.t 27)),On (.store (.t 5) (.t 24) 1),On (.store (.t 6) (.t 25) 1),On (.store (.t 7) (.t 28) 1)] [(3, 5), (3, 6)])
 (.skip))))
def grp (z : Nat) (st : Nat × Int × Nat) (q : Nat × Nat) : Nat × Int × Nat := if (q.1 : Int) ≠ st.2.1 ∨ st.2.2 ≤ q.2 then (st.1 + 1, (q.1 : Int), q.2 + z) else st
def grpL (z : Nat) (l : List (Nat × Nat)) (st : Nat × Int × Nat) : Nat × Int × Nat := l.foldl (grp z) st
theorem grpL_len (z : Nat) : ∀ (l : List (Nat × Nat)) (st : Nat × Int × Nat), (grpL z l st).1 ≤ st.1 + l.length
 | [], st => Nat.le_refl _
 | q :: l, st => by
  have := grpL_len z l (grp z st q)
  have h2 : (grp z st q).1 ≤ st.1 + 1 := by unfold grp; split <;> simp
  show (grpL z l (grp z st q)).1 ≤ st.1 + (l.length + 1)
  omega
theorem grp_row {row : List Int} {z r : Nat} : ∀ (k i c : Nat) (la : Int) (n : Nat), (grpL z (plcF row z r k i) (c, la, n)).1 = c + scG (fun t => plcR row z (t : Int)) z k i (if la = r then n else 0) ∧ ((grpL z (plcF row z r k i) (c, la, n)).2.1 = la ∨ (grpL z (plcF row z r k i) (c, la, n)).2.1 = r)
 | 0, i, c, la, n => ⟨rfl, .inl rfl⟩
 | k + 1, i, c, la, n => by
  rw [plcF, scG]
  by_cases hp : plcR row z (i : Int) = true
  ·rw [if_pos hp]
   have hu : grpL z ((r, i) :: plcF row z r k (i + 1)) (c, la, n) = grpL z (plcF row z r k (i + 1)) (grp z (c, la, n) (r, i)) := rfl
   rw [hu]
   by_cases hc : (r : Int) ≠ la ∨ n ≤ i
   ·have hg : grp z (c, la, n) (r, i) = (c + 1, (r : Int), i + z) := by unfold grp; rw [if_pos hc]
    obtain ⟨a, b⟩ := grp_row k (i + 1) (c + 1) (r : Int) (i + z)
    rw [hg, a, if_pos rfl, if_pos ⟨by split <;> omega, hp⟩]
    exact ⟨by omega, .inr (b.elim id id)⟩
   ·have hg : grp z (c, la, n) (r, i) = (c, la, n) := by unfold grp; rw [if_neg hc]
    have e1 : la = r := Classical.byContradiction fun h => hc (.inl fun e => h e.symm)
    obtain ⟨a, b⟩ := grp_row k (i + 1) c la n
    rw [hg, a, if_pos e1, if_neg (by rintro ⟨h, _⟩; exact hc (.inr h))]
    exact ⟨rfl, b⟩
  ·rw [if_neg hp, if_neg (fun h => hp h.2)]
   exact grp_row k (i + 1) c la n
theorem grp_rows {z : Nat} : ∀ (s : List (List Int)) (k c : Nat) (la : Int) (n : Nat), la < k → (grpL z (plcs z (idsM s) k) (c, la, n)).1 = c + cntS z s
 | [], k, c, la, n, _ => rfl
 | row :: s, k, c, la, n, h => by
  have hu : grpL z (plcs z (idsM (row :: s)) k) (c, la, n) = grpL z (plcs z (idsM s) (k + 1)) (grpL z (plcF row z k (row.length + 1 - z) 0) (c, la, n)) := by
   show List.foldl _ _ (plcF row z k (row.length + 1 - z) 0 ++ plcs z (idsM s) (k + 1)) = _
   rw [List.foldl_append]; rfl
  obtain ⟨a, b⟩ := grp_row (row := row) (z := z) (r := k) (row.length + 1 - z) 0 c la n
  rw [if_neg (by omega)] at a
  obtain ⟨c', la', n'⟩ : Nat × Int × Nat := grpL z (plcF row z k (row.length + 1 - z) 0) (c, la, n)
  rw [hu]
  generalize grpL z (plcF row z k (row.length + 1 - z) 0) (c, la, n) = st at a b
  obtain ⟨c1, la1, n1⟩ := st
  dsimp only at a b
  rw [grp_rows s (k + 1) c1 la1 n1 (by push_cast; omega), a]
  show _ = c + cntS z (row :: s)
  unfold cntS
  rw [List.map_cons, List.sum_cons]
  show _ = c + (cntR z row + _)
  unfold cntR
  omega
theorem plcF_len {row : List Int} {z r : Nat} : ∀ (k i : Nat), (plcF row z r k i).length ≤ k
 | 0, i => Nat.le_refl _
 | k + 1, i => by
  have := plcF_len (row := row) (z := z) (r := r) k (i + 1)
  rw [plcF]; split
  ·rw [List.length_cons]; omega
  ·omega
theorem plcs_len {z : Nat} : ∀ (rows : List Rw) (k : Nat), (∀ p ∈ rows, p.2.length ≤ 1000) → (plcs z rows k).length ≤ 1001 * rows.length
 | [], k, _ => Nat.le_refl _
 | p :: r, k, h => by
  have h1 := plcF_len (row := p.2) (z := z) (r := k) (p.2.length + 1 - z) 0
  have h2 := plcs_len (z := z) r (k + 1) fun q hq => h q (by simp [hq])
  have h3 := h p (by simp)
  rw [plcs, List.length_append, List.length_cons]; omega
def bG (a z : Nat) (st : Nat × Int × Nat) (l : List Blk) : List Blk := .live [I64 (z : Int)] 1 :: .live [I64 (st.1 : Int)] 1 :: .live [I64 st.2.1] 1 :: .live [I64 (st.2.2 : Int)] 1 :: .live [.ptr a 0 0] 1 :: .live [I64 (z : Int)] 1 :: l
theorem groups_range {a : Nat} {rows : List Rw} {z : Nat} (hz : 1 ≤ z) (hz2 : z ≤ 1000) (hlen : rows.length ≤ 1000) (hrl : ∀ p ∈ rows, p.2.length ≤ 1000) (bl : List Blk) (tk : List (Nat × Nat)) (hF : HF a rows ⟨bl, tk⟩)
  (env : Nat → AV) (v3 : env 3 = .ptr bl.length 0 0) (v5 : env 5 = .ptr (bl.length + 1) 0 0) (v6 : env 6 = .ptr (bl.length + 2) 0 0) (v7 : env 7 = .ptr (bl.length + 3) 0 0)
  (v12 : env 12 = .fn 90 [] [.ptr (bl.length + 4) 0 0, .ptr (bl.length + 5) 0 0]) (Q : Ex → St → Prop)
  (hQ : Q .nxt ⟨env, ⟨bl ++ bG a z (grpL z (plcs z rows 0) (0, -1, 0)) [.dead], tk⟩⟩) :
  @WL ft (.range (.t 12) [13, 14] asg42 body42) ⟨env, ⟨bl ++ bG a z (0, -1, 0) [], tk⟩⟩ ⟨Q⟩ := by
 have hpl : ∀ q ∈ plcs z rows 0, q.2 ≤ 1000 := fun q hq => by
  obtain ⟨p, _, h2, h3, _⟩ := plcs_mem hq
  have := hrl p (List.mem_of_getElem? h2)
  omega
 have hpn := plcs_len (z := z) rows 0 hrl
 refine WL_range_of (g := 90) (first := []) (cap := [.ptr (bl.length + 4) 0 0, .ptr (bl.length + 5) 0 0]) (by show env 12 = _; exact v12) ?_
 have hl6 : (bl ++ bG a z (0, -1, 0) []).length = bl.length + 6 := by rw [List.length_append]; rfl
 dsimp only
 rw [hl6, List.nil_append, List.append_assoc]
 show WR ft (.f 90) [.yld (bl.length + 6), .ptr (bl.length + 4) 0 0, .ptr (bl.length + 5) 0 0] ⟨bl ++ bG a z (0, -1, 0) [.lp env [13, 14] asg42 body42 true none], tk⟩ _
 refine places_sq (a := a) (rows := rows) (z := z) hz hz2 hlen hrl (fun ys m => ∃ dn, plcs z rows 0 = dn ++ ys ∧ ∃ env', (∀ t, t = 3 ∨ t = 5 ∨ t = 6 ∨ t = 7 → env' t = env t) ∧ m = ⟨bl ++ bG a z (grpL z dn (0, -1, 0)) [.lp env' [13, 14] asg42 body42 true none], tk⟩)
  (fun m => False) ?_ ?_ _ ⟨[], rfl, env, fun _ _ => rfl, rfl⟩ _ ?_ ?_
 ·rintro ys m ⟨dn, _, env', _, rfl⟩
  obtain ⟨⟨rv, hold, mp, vn, t2, ha⟩, hr⟩ := hF
  exact ⟨⟨⟨rv, hold, mp, vn, t2, gB ha _⟩, fun p hp => gB (hr p hp) _⟩, gA bl _ 4, gA bl _ 5⟩
 ·rintro r s ys m K' hrlt ⟨dn, hdn, env', hev, rfl⟩ hk hs
  have hmem : (r, s) ∈ plcs z rows 0 := by rw [hdn]; simp
  have hs1000 : s ≤ 1000 := hpl _ hmem
  have hdl : dn.length ≤ 1001 * rows.length := by
   have := congrArg List.length hdn
   rw [List.length_append] at this; omega
  have hcl := grpL_len z dn (0, -1, 0)
  have e3 : env' 3 = .ptr bl.length 0 0 := (hev 3 (by simp)).trans v3
  have e5 : env' 5 = .ptr (bl.length + 1) 0 0 := (hev 5 (by simp)).trans v5
  have e6 : env' 6 = .ptr (bl.length + 2) 0 0 := (hev 6 (by simp)).trans v6
  have e7 : env' 7 = .ptr (bl.length + 3) 0 0 := (hev 7 (by simp)).trans v7
  have hstep : grpL z (dn ++ [(r, s)]) (0, -1, 0) = grp z (grpL z dn (0, -1, 0)) (r, s) := by
   show List.foldl _ _ (dn ++ [(r, s)]) = _
   rw [List.foldl_append]; rfl
  generalize grpL z dn (0, -1, 0) = st at *
  obtain ⟨c, la, n⟩ := st
  dsimp only at hcl
  refine WR_yld (ft := ft) (gA bl _ 6) rfl ?_
  simp only [go_sem, Nat.reduceEqDiff, Nat.reduceAdd, Nat.reduceLT, Nat.reduceLeDiff, reduceIte, asg42, puts]
  refine YBegin_lp (ft := ft) (gA bl _ 6) ?_
  dsimp only
  rw [sA]
  show W ft body42 _ _
  unfold body42
  have w1 : IntKind.i64.wrap ((c : Int) + 1) = ((c + 1 : Nat) : Int) := wrap_n1 c (by omega)
  have w2 : IntKind.i64.wrap ((s : Int) + (z : Int)) = ((s + z : Nat) : Int) := by rw [wrap_i64 _ (by omega) (by omega)]; omega
  have a1 : apart (.ptr bl.length 0 0) (.ptr (bl.length + 1) 0 0) = true := by rw [apart_pp]; simp
  have a2 : apart (.ptr bl.length 0 0) (.ptr (bl.length + 2) 0 0) = true := by rw [apart_pp]; simp
  have hfin : ∀ (e' : Nat → AV) (st' : Nat × Int × Nat), (∀ t, t = 3 ∨ t = 5 ∨ t = 6 ∨ t = 7 → e' t = env' t) → grp z (c, la, n) (r, s) = st' → K' (.bool true) ⟨bl ++ bG a z st' [.lp e' [13, 14] asg42 body42 true none], tk⟩ := fun e' st' h1 h2 => hk _ ⟨dn ++ [(r, s)], by rw [hdn]; simp, e', fun t ht => (h1 t ht).trans (hev t ht), by rw [hstep, h2]⟩
  have hslot : ∀ t, t = 3 ∨ t = 5 ∨ t = 6 ∨ t = 7 → t ≠ 8 ∧ t ≠ 9 ∧ t ≠ 13 ∧ t ≠ 14 ∧ t ≠ 15 ∧ t ≠ 16 ∧ t ≠ 17 ∧ t ≠ 18 ∧ t ≠ 19 ∧ t ≠ 20 ∧ t ≠ 21 ∧ t ≠ 22 ∧ t ≠ 23 ∧ t ≠ 24 ∧ t ≠ 25 ∧ t ≠ 26 ∧ t ≠ 27 ∧ t ≠ 28 := fun t ht => by omega
  cases c1 : ((r : Int) != la)
  ·have c1' : (r : Int) = la := by simpa using c1
   cases c2 : decide ((n : Int) ≤ (s : Int))
   ·have c2' := of_decide_eq_false c2
    simp only [go_sem, Nat.reduceEqDiff, Nat.reduceAdd, Nat.reduceLT, Nat.reduceLeDiff, reduceIte, e3, e5, e6, e7, bG, gA, gA0, List.getElem?_cons_zero, List.getElem?_cons_succ, List.set, sA, sA0, c1, c2]
    refine YEnd_lp (gA bl _ 6) ?_
    dsimp only
    rw [sA]
    refine hfin _ (c, la, n) (fun t ht => ?_) (by unfold grp; rw [if_neg (fun h => h.elim (fun h => h c1') fun h => by dsimp only at h; omega)])
    obtain ⟨k8, k9, k13, k14, k15, k16, k17, k18, k19, k20, k21, k22, k23, k24, k25, k26, k27, k28⟩ := hslot t ht
    simp only [upd, k8, k9, k13, k14, k15, k16, k17, k18, k19, k20, k21, k22, k23, k24, k25, k26, k27, k28, if_false]
   ·have c2' := of_decide_eq_true c2
    simp only [go_sem, Nat.reduceEqDiff, Nat.reduceAdd, Nat.reduceLT, Nat.reduceLeDiff, reduceIte, e3, e5, e6, e7, bG, gA, gA0, List.getElem?_cons_zero, List.getElem?_cons_succ, List.set, sA, sA0, c1, c2, w1, w2, chkAll_cons, a1, a2]
    refine YEnd_lp (gA bl _ 6) ?_
    dsimp only
    rw [sA]
    refine hfin _ (c + 1, (r : Int), s + z) (fun t ht => ?_) (by unfold grp; rw [if_pos (.inr (by dsimp only; omega))])
    obtain ⟨k8, k9, k13, k14, k15, k16, k17, k18, k19, k20, k21, k22, k23, k24, k25, k26, k27, k28⟩ := hslot t ht
    simp only [upd, k8, k9, k13, k14, k15, k16, k17, k18, k19, k20, k21, k22, k23, k24, k25, k26, k27, k28, if_false]
  ·have c1' : (r : Int) ≠ la := by simpa using c1
   simp only [go_sem, Nat.reduceEqDiff, Nat.reduceAdd, Nat.reduceLT, Nat.reduceLeDiff, reduceIte, e3, e5, e6, e7, bG, gA, gA0, List.getElem?_cons_zero, List.getElem?_cons_succ, List.set, sA, sA0, c1, w1, w2, chkAll_cons, a1, a2]
   refine YEnd_lp (gA bl _ 6) ?_
   dsimp only
   rw [sA]
   refine hfin _ (c + 1, (r : Int), s + z) (fun t ht => ?_) (by unfold grp; rw [if_pos (.inl c1')])
   obtain ⟨k8, k9, k13, k14, k15, k16, k17, k18, k19, k20, k21, k22, k23, k24, k25, k26, k27, k28⟩ := hslot t ht
   simp only [upd, k8, k9, k13, k14, k15, k16, k17, k18, k19, k20, k21, k22, k23, k24, k25, k26, k27, k28, if_false]
 ·rintro m' ⟨dn, hdn, env', hev, rfl⟩
  rw [List.append_nil] at hdn
  refine RgEnd_lp (gA bl _ 6) ?_
  dsimp only
  rw [sA]
  rw [← hdn]
  exact hQ
 ·rintro m' hf
  exact hf.elim
theorem groups_HS {fr : List (Nat × Blk)} {a : Nat} {rv : AV} {hold : Int} {S : HZ} {N : Nat} {bl : List Blk} (h : HS fr a rv hold S bl) (hb : HB S N) {z : Nat} (hz : 1 ≤ z) (hz2 : z ≤ 1000) (tk : List (Nat × Nat)) (K : AV → Mem → Prop)
  (hK : ∀ ext, K (I64 (cntS z S.seats : Nat)) ⟨bl ++ ext, tk⟩) : WR ft (.f 42) [.ptr a 0 0, I64 (z : Int)] ⟨bl, tk⟩ K := by
 obtain ⟨mid, rows, ords, vn, hw, hv, e1, e2⟩ := h.ex
 have hlen : rows.length ≤ 6 := by rw [← List.length_map (f := Prod.snd), e1]; exact hb.len
 have hrl : ∀ p ∈ rows, p.2.length ≤ 1000 := fun p hp => by
  have := hb.row p.2 (by rw [← e1]; exact List.mem_map.2 ⟨p, hp, rfl⟩)
  omega
 rw [WR_f ft42 rfl]
 simp only [c42, r42]
 simp only [go_sem, Nat.reduceEqDiff, Nat.reduceAdd, Nat.reduceLT, Nat.reduceLeDiff, reduceIte, WB58, List.append_assoc, List.cons_append, List.nil_append, gA, gA0, sA, sA0, List.length_append, List.length_cons, List.length_nil, Nat.add_assoc, List.getElem?_cons_zero, List.getElem?_cons_succ, List.set_cons_zero, List.set_cons_succ]
 show WR ft (.f 58) _ _ _
 refine places_W _ rfl rfl _ _ _ _ ?_
 simp only [go_sem, Nat.reduceEqDiff, Nat.reduceAdd, Nat.reduceLT, Nat.reduceLeDiff, reduceIte, List.append_assoc, List.cons_append, List.nil_append, List.length_append, List.length_cons, List.length_nil, Nat.add_assoc]
 refine groups_range hz hz2 (by omega) hrl bl tk (hw.hf tk) _ rfl rfl rfl rfl rfl _ ?_
 simp only [go_sem, Nat.reduceEqDiff, Nat.reduceAdd, Nat.reduceLT, Nat.reduceLeDiff, reduceIte, bG, gA, gA0, List.getElem?_cons_zero, List.getElem?_cons_succ]
 have hg : (grpL z (plcs z rows 0) (0, -1, 0)).1 = cntS z S.seats := by
  rw [plcs_ids, grp_rows _ 0 0 (-1) 0 (by decide), e1, Nat.zero_add]
 rw [← hg] at hK
 exact hK _
def grpE (h : Hl) (l : List Cl) (m z : Int) : Int := if lisE h l m = 0 then (if szR z = true then 0 else 1) else lisE h l m
def grpM (h : Hl) (l : List Cl) (m z : Int) : Int := if grpE h l m z = 0 then (cntS z.toNat (afterM h l m).seats : Nat) else 0
theorem Groups_ok (h : Hl) (l : List Cl) (m z : Int) : RV ft 24 [encH h, encCs l, I64 m, I64 z] (.tup [I64 (grpM h l m z), I64 (grpE h l m z)]) := by
 refine RV_of ft24 rfl ?_
 simp only [c24, r24]
 simp only [go_sem, Nat.reduceEqDiff, Nat.reduceAdd, Nat.reduceLT, Nat.reduceLeDiff, reduceIte, HEta, WB34]
 show WR ft (.f 34) _ _ _
 refine listen_W h l m _ _ (fun he bl' tk => ?_) fun he v bl' tk hp => ?_
 ·have hne : (lisE h l m != 0) = true := by simpa using he
  have hE : grpE h l m z = lisE h l m := by unfold grpE; rw [if_neg he]
  have hM : grpM h l m z = 0 := by unfold grpM; rw [hE, if_neg he]
  rw [hE, hM]
  simp only [go_sem, Nat.reduceEqDiff, Nat.reduceAdd, Nat.reduceLT, Nat.reduceLeDiff, reduceIte, gA0, List.cons_append, List.nil_append, List.getElem?_cons_zero, hne]
 ·have bnz : ((0 : Int) != 0) = false := rfl
  have hI := isSize_ok z
  have hB := hp.box
  obtain ⟨a, mid, rows, ords, vn, t, ev, hva, hw, hv, _⟩ := hp
  obtain ⟨hvc, hvs⟩ : vn.cells = [vn] ∧ vn.solid = true := by
   rcases hv with ⟨_, e⟩ | ⟨_, id, e, _⟩ <;> rw [e] <;> exact ⟨rfl, rfl⟩
  subst ev
  unfold grpM grpE
  rw [if_pos he]
  cases hn : szR z
  ·rw [hn] at hI
   simp only [go_sem, Nat.reduceEqDiff, Nat.reduceAdd, Nat.reduceLT, Nat.reduceLeDiff, reduceIte, bnz, WB39, WVH_eq hI, true_and, hvc, hvs, gA0, sA0, List.getElem?_cons_zero, List.set_cons_zero]
   rfl
  ·rw [hn] at hI
   obtain ⟨z1, z2⟩ := inR_iff (show inR z 1 12 = true from hn)
   obtain ⟨zn, rfl⟩ : ∃ zn : Nat, z = zn := ⟨z.toNat, by omega⟩
   simp only [go_sem, Nat.reduceEqDiff, Nat.reduceAdd, Nat.reduceLT, Nat.reduceLeDiff, reduceIte, bnz, WB39, WVH_eq hI, true_and, hvc, hvs, gA0, sA0, List.getElem?_cons_zero, List.set_cons_zero, WB42]
   show WR ft (.f 42) _ _ _
   refine groups_HS hB (after_HB he) (by omega) (by omega) tk _ fun ext => ?_
   rw [Int.toNat_natCast]
   simp only [go_sem, Nat.reduceEqDiff, Nat.reduceAdd, Nat.reduceLT, Nat.reduceLeDiff, reduceIte, if_true]
end Go.Ab.T
end
