/-
  A part of the proofs over this seat.
  (The texts KcM9, one behind the other.)
-/
import Derived.Test.YtaenhjnmmdaokaaP18
set_option linter.unusedSimpArgs false
set_option linter.unusedVariables false
set_option linter.unusedSectionVars false
section
namespace Go.Ab.T
theorem bndF_at (f : Ch → Int) : ∀ (L : List Ch) (s : Int × Int), ((bndF f L s).1 = s.1 ∨ ∃ x ∈ L, (bndF f L s).1 = f x) ∧ ((bndF f L s).2 = s.2 ∨ ∃ x ∈ L, (bndF f L s).2 = f x)
  | [], s => ⟨.inl rfl, .inl rfl⟩
  | c :: r, s => by
    obtain ⟨h1, h2⟩ := bndF_at f r (min s.1 (f c), max s.2 (f c))
    simp only [bndF]
    constructor
    · rcases h1 with h | ⟨x, hx, h⟩
      · dsimp only at h
        by_cases hm : s.1 ≤ f c
        · exact .inl (by rw [h]; omega)
        · exact .inr ⟨c, by simp, by rw [h]; omega⟩
      · exact .inr ⟨x, by simp [hx], h⟩
    · rcases h2 with h | ⟨x, hx, h⟩
      · dsimp only at h
        by_cases hm : f c ≤ s.2
        · exact .inl (by rw [h]; omega)
        · exact .inr ⟨c, by simp, by rw [h]; omega⟩
      · exact .inr ⟨x, by simp [hx], h⟩
theorem bnd_at (f : Ch → Int) {L : List Ch} (hn : L ≠ []) : (∃ x ∈ L, (bnd f L).1 = f x) ∧ ∃ x ∈ L, (bnd f L).2 = f x := by
  match L, hn with
  | c :: r, _ =>
    obtain ⟨h1, h2⟩ := bndF_at f (c :: r) (f c, f c)
    exact ⟨h1.elim (fun h => ⟨c, by simp, h⟩) id, h2.elim (fun h => ⟨c, by simp, h⟩) id⟩
theorem at_bd {t s : V3} (h : t.nn ∧ t.le s) {i : Int} : 0 ≤ t.at i ∧ t.at i ≤ s.at i ∧ t.at i ≤ t.sum := by
  unfold V3.at
  simp only [V3.nn, V3.le, V3.sum] at h ⊢
  split
  · omega
  · split <;> omega
theorem likV_t {v : Ev} (h : EV4 v) (ht : hasTr v = true) {i : Nat} {c : Ctr} (hc : v.cs[i]? = some c) {x : Ch} (hx : x ∈ (likV v i).1) : (x.t.nn ∧ x.t.le (toV v.se)) ∧ x.t.sum = roll c := by
  obtain ⟨ts, t, h1, h2, h3, rfl⟩ := (likV_mem h ht hc).1 hx
  obtain ⟨t', h4, h5, _⟩ := IsT_erase hc h1
  rw [h3] at h4; cases h4
  exact ⟨(IsT_nn h1).2 t (List.mem_of_getElem? h3), h5.2⟩
theorem count_flaws (p : V3) : ∀ (cs : List Ctr) (ts : List V3) (P : Nat → Bool), ts.length = cs.length → (∀ i c t, cs[i]? = some c → ts[i]? = some t → P i = true → 0 < flw p c t) → ((((List.range cs.length).filter P).length : Nat) : Int) ≤ flT p cs ts
  | [], ts, P, _, _ => by
    cases ts <;> simp [flT]
  | c :: cs, [], P, hl, _ => by simp at hl
  | c :: cs, t :: ts, P, hl, h => by
    have ih := count_flaws p cs ts (fun i => P (i + 1)) (by simpa using hl) fun i c' t' h1 h2 h3 => h (i + 1) c' t' (by simpa using h1) (by simpa using h2) h3
    have hb := flw_bd p c t
    have e : ((List.range (c :: cs).length).filter P).length = (if P 0 = true then 1 else 0) + ((List.range cs.length).filter (fun i => P (i + 1))).length := by
      rw [List.length_cons, List.range_succ_eq_map, List.filter_cons, List.filter_map]
      split <;> simp [Function.comp_def] <;> omega
    rw [e]
    simp only [flT]
    by_cases hp : P 0 = true
    · have := h 0 c t rfl rfl hp
      rw [if_pos hp]
      omega
    · rw [if_neg hp]
      omega
theorem guilty_few {v : Ev} (h : EV4 v) {ls : List (List Int)} (hT : TrL v ls) (hf : flT (toV v.pr) v.cs (ls.map toV) = (likV v 0).2) : ((tillsM gP v).length : Int) ≤ (likV v 0).2 := by
  unfold tillsM
  rw [List.length_map, ← hf]
  refine count_flaws _ _ _ _ (IsT_len hT.2) fun i c t h1 h2 h3 => ?_
  rw [List.getElem?_map] at h2
  cases hl : ls[i]? with
  | none => rw [hl] at h2; cases h2
  | some l =>
    rw [hl] at h2
    simp only [Option.map_some, Option.some.injEq] at h2
    subst h2
    exact gP_at (few_mem h hT hf h1 hl) h3
end Go.Ab.T
end
