/-
  A part of the proofs over this seat.
  (The texts KcM6, one behind the other.)
-/
import Derived.Test.YtaenhjnmmdaokaaP14
set_option linter.unusedSimpArgs false
set_option linter.unusedVariables false
set_option linter.unusedSectionVars false
section
namespace Go.Ab.T
/-! ### The likeliest truths, listed -/
def lkL (v : Ev) : List (List (List Int)) := trL (toV v.pr) v.cs (likV v 0).2 v.se
theorem trL_has {v : Ev} (h : EV4 v) {f : Int} (hf : 0 ≤ f) {ls : List (List Int)} : ls ∈ trL (toV v.pr) v.cs f v.se ↔ TrL v ls ∧ flT (toV v.pr) v.cs (ls.map toV) ≤ f := by
  rw [mem_trL (toV v.pr) h.k3 h.sl (fun n hn => (h.se n hn).1) hf]
  exact ⟨fun ⟨a, b, c⟩ => ⟨⟨a, b⟩, c⟩, fun ⟨⟨a, b⟩, c⟩ => ⟨a, b, c⟩⟩
theorem wid_of_le {a s : V3} {k : Nat} (hs : s.wid k) (h : a.nn ∧ a.le s) : a.wid k := by
  simp only [V3.wid, V3.nn, V3.le] at hs h ⊢
  omega
theorem tr_list {v : Ev} (h : EV4 v) {ts : List V3} (ht : IsT (toV v.se) v.cs ts) : TrL v (ts.map (fromV v.pr.length)) ∧ (ts.map (fromV v.pr.length)).map toV = ts := by
  have hk3 := h.k3
  have hw := toV_wid v.se
  rw [h.sl] at hw
  have e : (ts.map (fromV v.pr.length)).map toV = ts := by
    rw [List.map_map]
    conv => rhs; rw [← List.map_id ts]
    exact List.map_congr_left fun t htm => toV_fromV (wid_of_le hw ((IsT_nn ht).2 t htm))
  refine ⟨⟨fun l hl => ?_, by rw [e]; exact ht⟩, e⟩
  obtain ⟨t, _, rfl⟩ := List.mem_map.1 hl
  exact fromV_len hk3 t
theorem few0 {v : Ev} (h : EV4 v) (ht : hasTr v = true) : 0 ≤ (likV v 0).2 ∧ (likV v 0).2 ≤ 2 * v.cs.length := by
  obtain ⟨⟨ts, h1, h2⟩, h3⟩ := likV_min h ht (i := 0) (by have := h.n1; omega)
  have := flT_bd (toV v.pr) v.cs ts
  omega
theorem trL_ne {v : Ev} (h : EV4 v) (ht : hasTr v = true) {f : Int} (hf : 0 ≤ f) : trL (toV v.pr) v.cs f v.se ≠ [] ↔ (likV v 0).2 ≤ f := by
  obtain ⟨⟨ts, h1, h2⟩, h3⟩ := likV_min h ht (i := 0) (by have := h.n1; omega)
  constructor
  · intro hne
    obtain ⟨ls, hls⟩ := List.exists_mem_of_ne_nil _ hne
    obtain ⟨h4, h5⟩ := (trL_has h hf).1 hls
    have := h3 _ h4.2
    omega
  · intro hle
    obtain ⟨h4, h5⟩ := tr_list h h1
    exact List.ne_nil_of_mem ((trL_has h hf).2 ⟨h4, by rw [h5, h2]; exact hle⟩)
theorem trL_no {v : Ev} (h : EV4 v) (ht : hasTr v = false) {f : Int} (hf : 0 ≤ f) : trL (toV v.pr) v.cs f v.se = [] := by
  cases e : trL (toV v.pr) v.cs f v.se with
  | nil => rfl
  | cons ls r =>
    have := tr_has h ((trL_has h hf).1 (show ls ∈ _ by rw [e]; simp)).1
    rw [ht] at this; cases this
theorem lkL_mem {v : Ev} (h : EV4 v) (ht : hasTr v = true) {ls : List (List Int)} : ls ∈ lkL v ↔ TrL v ls ∧ flT (toV v.pr) v.cs (ls.map toV) = (likV v 0).2 := by
  unfold lkL
  rw [trL_has h (few0 h ht).1]
  constructor
  · intro ⟨a, b⟩
    have := (few_le h a).2
    exact ⟨a, by omega⟩
  · intro ⟨a, b⟩; exact ⟨a, by omega⟩
def wrB (p : V3) (c : Ctr) (i : Nat) (ls : List (List Int)) : Bool := decide (0 < flw p c (toV (ls.getD i [])))
theorem lkL_lik {v : Ev} (h : EV4 v) (ht : hasTr v = true) {i : Nat} {c : Ctr} (hc : v.cs[i]? = some c) {x : Ch} : x ∈ (likV v i).1 ↔ ∃ ls ∈ lkL v, x = mkc (toV v.pr) c (toV (ls.getD i [])) := by
  rw [likV_mem h ht hc]
  have hi := (List.getElem?_eq_some_iff.1 hc).1
  constructor
  · rintro ⟨ts, t, h1, h2, h3, rfl⟩
    obtain ⟨h4, h5⟩ := tr_list h h1
    refine ⟨_, (lkL_mem h ht).2 ⟨h4, by rw [h5]; exact h2⟩, ?_⟩
    have h6 : (ts.map (fromV v.pr.length)).getD i [] = fromV v.pr.length t := by rw [List.getD_eq_getElem?_getD, List.getElem?_map, h3]; rfl
    have h7 : toV (fromV v.pr.length t) = t := by
      have := congrArg (fun l : List V3 => l[i]?) h5
      simp only [List.getElem?_map, h3, Option.map_some, Option.some.injEq] at this
      exact this
    rw [h6, h7]
  · rintro ⟨ls, hls, rfl⟩
    obtain ⟨h1, h2⟩ := (lkL_mem h ht).1 hls
    have hlen := IsT_len h1.2
    rw [List.length_map] at hlen
    have hl : ls[i]? = some ls[i] := List.getElem?_eq_getElem (by omega)
    refine ⟨_, toV ls[i], h1.2, h2, by rw [List.getElem?_map, hl]; rfl, ?_⟩
    rw [List.getD_eq_getElem?_getD, hl]; rfl
theorem lkL_ne {v : Ev} (h : EV4 v) (ht : hasTr v = true) : lkL v ≠ [] := (trL_ne h ht (few0 h ht).1).2 (Int.le_refl _)
theorem cnt_sP {v : Ev} (h : EV4 v) (ht : hasTr v = true) {i : Nat} {c : Ctr} (hc : v.cs[i]? = some c) : decide (0 < (((lkL v).countP (wrB (toV v.pr) c i) : Nat) : Int)) = sP (likV v i).1 := by
  rw [Bool.eq_iff_iff, decide_eq_true_eq]
  unfold sP
  rw [List.any_eq_true]
  constructor
  · intro hp
    obtain ⟨ls, h1, h2⟩ := List.countP_pos_iff.1 (show 0 < (lkL v).countP (wrB (toV v.pr) c i) by omega)
    exact ⟨_, (lkL_lik h ht hc).2 ⟨ls, h1, rfl⟩, h2⟩
  · rintro ⟨x, hx, hf⟩
    obtain ⟨ls, h1, rfl⟩ := (lkL_lik h ht hc).1 hx
    have := List.countP_pos_iff.2 ⟨ls, h1, show wrB (toV v.pr) c i ls = true from hf⟩
    omega
theorem cnt_gP {v : Ev} (h : EV4 v) (ht : hasTr v = true) {i : Nat} {c : Ctr} (hc : v.cs[i]? = some c) : (decide (0 < (((lkL v).countP (wrB (toV v.pr) c i) : Nat) : Int)) && ((((lkL v).countP (wrB (toV v.pr) c i) : Nat) : Int) == ((lkL v).length : Int))) = gP (likV v i).1 := by
  have hne := List.length_pos_iff.2 (lkL_ne h ht)
  rw [Bool.eq_iff_iff, Bool.and_eq_true, decide_eq_true_eq, beq_iff_eq]
  unfold gP
  rw [Bool.not_eq_true', List.any_eq_false]
  constructor
  · rintro ⟨_, he⟩ x hx
    obtain ⟨ls, h1, rfl⟩ := (lkL_lik h ht hc).1 hx
    have := List.countP_eq_length.1 (show (lkL v).countP (wrB (toV v.pr) c i) = (lkL v).length by omega) ls h1
    have h2 : decide (0 < (mkc (toV v.pr) c (toV (ls.getD i []))).f) = true := this
    rw [h2]; simp
  · intro hall
    have he : (lkL v).countP (wrB (toV v.pr) c i) = (lkL v).length := List.countP_eq_length.2 fun ls h1 => by
      have := hall _ ((lkL_lik h ht hc).2 ⟨ls, h1, rfl⟩)
      have h3 : (!decide (0 < (mkc (toV v.pr) c (toV (ls.getD i []))).f)) = false := by simpa using this
      show decide (0 < flw (toV v.pr) c (toV (ls.getD i []))) = true
      have h4 : decide (0 < flw (toV v.pr) c (toV (ls.getD i []))) = decide (0 < (mkc (toV v.pr) c (toV (ls.getD i []))).f) := rfl
      rw [h4]
      simpa using h3
    exact ⟨by omega, by omega⟩
end Go.Ab.T
end
