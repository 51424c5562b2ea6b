/-
  A part of the proofs over this seat.
  (The texts KcK18, one behind the other.)
-/
import Derived.Test.YtaenhjnmmdaokaaP8
set_option linter.unusedSimpArgs false
set_option linter.unusedVariables false
set_option linter.unusedSectionVars false
section
namespace Go.Ab.T
/-! ### What holds of a truth with the fewest flaws -/
theorem bndF_le (f : Ch → Int) : ∀ (L : List Ch) (s : Int × Int), (bndF f L s).1 ≤ s.1 ∧ s.2 ≤ (bndF f L s).2 ∧ ∀ x ∈ L, (bndF f L s).1 ≤ f x ∧ f x ≤ (bndF f L s).2
  | [], s => ⟨Int.le_refl _, Int.le_refl _, fun x hx => nomatch hx⟩
  | c :: r, s => by
    obtain ⟨h1, h2, h3⟩ := bndF_le f r (min s.1 (f c), max s.2 (f c))
    simp only [bndF]
    dsimp only at h1 h2
    refine ⟨by omega, by omega, fun x hx => ?_⟩
    cases hx with
    | head => omega
    | tail _ hx => exact h3 x hx
theorem bnd_mem (f : Ch → Int) {L : List Ch} {x : Ch} (h : x ∈ L) : (bnd f L).1 ≤ f x ∧ f x ≤ (bnd f L).2 := by
  match L, h with
  | c :: r, h => exact (bndF_le f (c :: r) (f c, f c)).2.2 x h
theorem errT_of {v : Ev} (h : EV4 v) (ht : hasTr v = true) {till sh : Int} (h1 : 0 ≤ till ∧ till < v.cs.length) (h2 : 0 ≤ sh ∧ sh < v.pr.length) : errT v till sh = 0 := by
  unfold errT
  rw [if_pos (EV4_of.2 h), if_pos (by rw [Bool.and_eq_true, inR_iff, inR_iff]; omega), if_pos ht]
theorem errT00 {v : Ev} (h : EV4 v) (ht : hasTr v = true) : errT v 0 0 = 0 := errT_of h ht (by have := h.n1; omega) (by have := h.k1; omega)
theorem tr_has {v : Ev} (h : EV4 v) {ls : List (List Int)} (ht : TrL v ls) : hasTr v = true := by
  unfold hasTr
  rw [beq_iff_eq]
  exact (IsT_sum ht.2).symm
theorem likV_min {v : Ev} (h : EV4 v) (ht : hasTr v = true) {i : Nat} (hi : i < v.cs.length) : IsMinF (toV v.pr) (toV v.se) v.cs (likV v i).2 := by
  unfold likV
  rw [List.getElem?_eq_getElem hi]
  exact (lik_spec (List.getElem?_eq_getElem hi) (hasT_of h ht)).2.1
theorem likV_mem {v : Ev} (h : EV4 v) (ht : hasTr v = true) {i : Nat} {c : Ctr} (hc : v.cs[i]? = some c) {x : Ch} : x ∈ (likV v i).1 ↔ ∃ ts t, IsT (toV v.se) v.cs ts ∧ flT (toV v.pr) v.cs ts = (likV v 0).2 ∧ ts[i]? = some t ∧ x = mkc (toV v.pr) c t := by
  have hi := (List.getElem?_eq_some_iff.1 hc).1
  have e := (likV_min h ht hi).uniq (likV_min h ht (i := 0) (by omega))
  rw [← e]
  unfold likV
  rw [hc]
  exact (lik_spec hc (hasT_of h ht)).2.2 x
theorem few_le {v : Ev} (h : EV4 v) {ls : List (List Int)} (ht : TrL v ls) : 0 ≤ (likV v 0).2 ∧ (likV v 0).2 ≤ flT (toV v.pr) v.cs (ls.map toV) := by
  obtain ⟨⟨ts, h1, h2⟩, h3⟩ := likV_min h (tr_has h ht) (i := 0) (by have := h.n1; omega)
  have := flT_bd (toV v.pr) v.cs ts
  exact ⟨by omega, h3 _ ht.2⟩
theorem few_mem {v : Ev} (h : EV4 v) {ls : List (List Int)} (ht : TrL v ls) (hf : flT (toV v.pr) v.cs (ls.map toV) = (likV v 0).2) {i : Nat} {c : Ctr} (hc : v.cs[i]? = some c) {l : List Int} (hl : ls[i]? = some l) : mkc (toV v.pr) c (toV l) ∈ (likV v i).1 :=
  (likV_mem h (tr_has h ht) hc).2 ⟨_, toV l, ht.2, hf, by rw [List.getElem?_map, hl]; rfl, rfl⟩
theorem tillsM_len (P : List Ch → Bool) (v : Ev) : (tillsM P v).length ≤ v.cs.length := by
  unfold tillsM
  rw [List.length_map]
  exact Nat.le_trans (List.length_filter_le _ _) (by simp)
theorem tillsM_in (P : List Ch → Bool) (v : Ev) {i : Nat} (hi : i < v.cs.length) : (tillsM P v).any (· == (i : Int)) = P (likV v i).1 := by
  rw [Bool.eq_iff_iff, List.any_eq_true]
  unfold tillsM
  constructor
  · rintro ⟨x, hx, e⟩
    obtain ⟨j, hj, rfl⟩ := List.mem_map.1 hx
    have : j = i := by have := beq_iff_eq.1 e; omega
    subst this
    exact (List.mem_filter.1 hj).2
  · intro h
    exact ⟨(i : Int), List.mem_map.2 ⟨i, List.mem_filter.2 ⟨List.mem_range.2 hi, h⟩, rfl⟩, beq_self_eq_true _⟩
theorem gP_at {L : List Ch} {x : Ch} (h : x ∈ L) (hg : gP L = true) : 0 < x.f := by
  unfold gP at hg
  rw [Bool.not_eq_true', List.any_eq_false] at hg
  simpa using hg x h
theorem sP_at {L : List Ch} {x : Ch} (h : x ∈ L) (hx : 0 < x.f) : sP L = true := by
  unfold sP
  rw [List.any_eq_true]
  exact ⟨x, h, decide_eq_true hx⟩
theorem toV_at {l : List Int} {i : Nat} {x : Int} (h3 : l.length ≤ 3) (h : l[i]? = some x) : (toV l).at (i : Int) = x := by
  have hi := (List.getElem?_eq_some_iff.1 h).1
  have hd : l.getD i 0 = x := by rw [List.getD_eq_getElem?_getD, h]; rfl
  have : i = 0 ∨ i = 1 ∨ i = 2 := by omega
  rcases this with rfl | rfl | rfl
  · exact hd
  · exact hd
  · exact hd
end Go.Ab.T
end
