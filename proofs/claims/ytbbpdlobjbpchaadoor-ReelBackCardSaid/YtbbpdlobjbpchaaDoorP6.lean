/-
  A part of the proofs over this seat.
  (The texts AxR25 AxR26 AxR27 AxR28, one behind the other.)
-/
import Derived.Test.YtbbpdlobjbpchaaDoorP5
set_option linter.unusedSimpArgs false
set_option linter.unusedVariables false
set_option linter.unusedSectionVars false
section
namespace Go.Ab.T
set_option maxRecDepth 8000
set_option linter.unusedSimpArgs false
set_option linter.unusedVariables false
set_option maxHeartbeats 2000000
/-- The least and the greatest count of some sets. -/
structure LH (c : Nat → Nat) (l : List Nat) (lo hi : Nat) : Prop where
  nil : l = [] → lo = 0 ∧ hi = 0
  all : ∀ t ∈ l, lo ≤ c t ∧ c t ≤ hi
  low : l ≠ [] → ∃ t ∈ l, c t = lo
  high : l ≠ [] → ∃ t ∈ l, c t = hi
theorem LH.empty (c : Nat → Nat) : LH c [] 0 0 := ⟨fun _ => ⟨rfl, rfl⟩, (fun _ h => by cases h), fun h => absurd rfl h, fun h => absurd rfl h⟩
theorem LH.one (c : Nat → Nat) (t : Nat) : LH c [t] (c t) (c t) :=
  ⟨fun h => by simp at h, fun t' h => by simp at h; subst h; exact ⟨Nat.le_refl _, Nat.le_refl _⟩, fun _ => ⟨t, by simp, rfl⟩, fun _ => ⟨t, by simp, rfl⟩⟩
theorem LH.snoc {c : Nat → Nat} {l : List Nat} {lo hi : Nat} (h : LH c l lo hi) (hl : l ≠ []) (t : Nat) : LH c (l ++ [t]) (min lo (c t)) (max hi (c t)) := by
  refine ⟨fun h => by simp at h, fun t' ht => ?_, fun _ => ?_, fun _ => ?_⟩
  · rcases List.mem_append.1 ht with h1 | h1
    · have := h.all t' h1; omega
    · simp at h1; subst h1; omega
  · obtain ⟨t', h1, h2⟩ := h.low hl
    by_cases hle : lo ≤ c t
    · exact ⟨t', by simp [h1], by omega⟩
    · exact ⟨t, by simp, by omega⟩
  · obtain ⟨t', h1, h2⟩ := h.high hl
    by_cases hle : c t ≤ hi
    · exact ⟨t', by simp [h1], by omega⟩
    · exact ⟨t, by simp, by omega⟩
theorem known_mem {r : Rl} (h : Near r) (h0 : checkR r = 0) (t : Nat) : t ∈ knownL r ↔ t ∈ TL r := by
  unfold knownL; rw [if_pos h0]; exact RT_mem (h.ok h0) t
theorem LH.eq {r : Rl} {c : Nat → Nat} {lo hi : Nat} (hn : Near r) (h : LH c (knownL r) lo hi) : lo = lowT r c ∧ hi = highT r c := by
  by_cases h0 : checkR r = 0
  · by_cases ht : TL r = []
    · have hk : knownL r = [] := List.eq_nil_iff_forall_not_mem.2 fun t hm => by
        have := (known_mem hn h0 t).1 hm; rw [ht] at this; cases this
      obtain ⟨rfl, rfl⟩ := h.nil hk
      unfold lowT highT; rw [if_pos h0, if_pos h0, ht]; exact ⟨rfl, rfl⟩
    · have hk : knownL r ≠ [] := fun hk => by
        obtain ⟨t, hm⟩ := List.exists_mem_of_ne_nil _ ht
        have := (known_mem hn h0 t).2 hm; rw [hk] at this; cases this
      obtain ⟨a1, t1, a2, a3⟩ := low_spec h0 ht c
      obtain ⟨b1, t2, b2, b3⟩ := high_spec h0 ht c
      obtain ⟨t3, c2, c3⟩ := h.low hk
      obtain ⟨t4, d2, d3⟩ := h.high hk
      have e1 := a1 t3 ((known_mem hn h0 _).1 c2)
      have e2 := (h.all t1 ((known_mem hn h0 _).2 a2)).1
      have e3 := b1 t4 ((known_mem hn h0 _).1 d2)
      have e4 := (h.all t2 ((known_mem hn h0 _).2 b2)).2
      exact ⟨by omega, by omega⟩
  · have hk : knownL r = [] := by unfold knownL; rw [if_neg h0]
    obtain ⟨rfl, rfl⟩ := h.nil hk
    unfold lowT highT; rw [if_neg h0, if_neg h0]; exact ⟨rfl, rfl⟩
theorem known_len {r : Rl} (h : Near r) : (knownL r).length ≤ 512 := by
  unfold knownL
  split
  · rename_i h0; exact RT_len_le (h.ok h0).nine
  · simp
/-- The next span. -/
theorem LH.next {c : Nat → Nat} {l : List Nat} {k lo hi t : Nat} (hk : k < l.length) (h : LH c (l.take k) lo hi) (hg : l[k]? = some t) :
    LH c (l.take (k + 1)) (if ((k : Int) == 0) = true then c t else min lo (c t)) (if ((k : Int) == 0) = true then c t else max hi (c t)) := by
  have htk : l.take (k + 1) = l.take k ++ [t] := by rw [List.take_add_one, hg]; rfl
  rw [htk]
  by_cases h0 : k = 0
  · subst h0
    simp only [List.take_zero, List.nil_append]
    exact LH.one c t
  · have h1 : ((k : Int) == 0) = false := by simpa using h0
    rw [h1]
    simp only [Bool.false_eq_true, if_false]
    exact h.snoc (fun he => by have := congrArg List.length he; rw [List.length_take, List.length_nil] at this; omega) t
theorem cast_if (b : Bool) (x y : Nat) : (if b = true then (x : Int) else min (y : Int) (x : Int)) = ((if b = true then x else min y x : Nat) : Int) := by cases b <;> simp <;> omega
theorem cast_ifx (b : Bool) (x y : Nat) : (if b = true then (x : Int) else max (y : Int) (x : Int)) = ((if b = true then x else max y x : Nat) : Int) := by cases b <;> simp <;> omega
theorem nats_get (l : List Nat) (k : Nat) : (l.map fun (i : Nat) => I64 i)[k]? = l[k]?.map fun (i : Nat) => I64 i := List.getElem?_map
theorem whole63 (r : Rl) (h : Near r) (a b : Int) (c : Nat → Nat) (hc : ∀ t ∈ knownL r, RV ft 42 [I64 t, I64 a, I64 b] (I64 (c t : Nat))) : RV ft 63 [encR r, I64 a, I64 b] (encB r c) := by
  refine RV_of ft63 rfl ?_
  simp only [c63, r63]
  have hlen := known_len h
  simp only [go_sem, Nat.reduceEqDiff, Nat.reduceAdd, Nat.reduceLT, Nat.reduceLeDiff, reduceIte, and_self, decide_true, decide_false, beq_self_eq_true, sn_ms, hot_ms, WB65, WVH_eq (known_ok r h), true_and]
  refine WL_inv (α := Nat × List Nat × Nat × Nat) (fun q e mm => e 1 = I64 a ∧ e 2 = I64 b ∧ e 3 = .ptr 0 0 0 ∧ e 6 = .ptr 1 0 0 ∧ e 8 = .ptr 2 0 0 ∧ e 9 = .sl ((knownL r).map fun (i : Nat) => I64 i) .unk ∧ e 10 = I64 (errT r) ∧ e 11 = I64 q.1 ∧
    (knownL r).drop q.1 = q.2.1 ∧ q.1 ≤ (knownL r).length ∧ mm = ⟨[.live [encR r] 2, .live [.agg [I64 0, I64 0]] 2, .live [.agg [I64 q.2.2.1, I64 q.2.2.2]] 2], []⟩ ∧ LH c ((knownL r).take q.1) q.2.2.1 q.2.2.2) (fun q => (knownL r).length - q.1) (0, knownL r, 0, 0) ?_ ?_
  · simp only [go_sem, Nat.reduceEqDiff, Nat.reduceAdd, Nat.reduceLT, Nat.reduceLeDiff, reduceIte, and_self, decide_true, decide_false, beq_self_eq_true]
    exact ⟨trivial, trivial, trivial, trivial, trivial, trivial, trivial, rfl, trivial, Nat.zero_le _, rfl, LH.empty c⟩
  rintro ⟨k, l, lo, hi⟩ e mm ⟨g1, g2, g3, g6, g8, g9, g10, g11, hd, hk, rfl, hL⟩
  dsimp only at g11 hd hk hL
  rcases l with _ | ⟨t, l⟩
  · have hk' := drop_nil hd
    rw [List.take_of_length_le hk'] at hL
    obtain ⟨rfl, rfl⟩ := hL.eq h
    simp only [go_sem, Nat.reduceEqDiff, Nat.reduceAdd, Nat.reduceLT, Nat.reduceLeDiff, reduceIte, and_self, decide_true, decide_false, beq_self_eq_true, g1, g2, g3, g6, g8, g9, g10, g11, List.length_map, dec_ge hk']
  · obtain ⟨hg, hd', hlt⟩ := drop_cons hd
    have hw : IntKind.i64.wrap ((k : Int) + 1) = ((k + 1 : Nat) : Int) := by rw [wrap_i64 _ (by omega) (by omega)]; rfl
    have hct := hc t (List.mem_of_getElem? hg)
    have hN := hL.next hlt hg
    simp only [go_sem, Nat.reduceEqDiff, Nat.reduceAdd, Nat.reduceLT, Nat.reduceLeDiff, reduceIte, and_self, decide_true, decide_false, beq_self_eq_true, g1, g2, g3, g6, g8, g9, g10, g11, List.length_map, dec_lt hlt, dec_nn, Int.toNat_natCast, nats_get, hg, WB42, WVH_eq hct, true_and, WB66, WVH_eq (wider_ok _ _ _ _), hw, cast_if, cast_ifx]
    refine Nx_of (k + 1, l, (if ((k : Int) == 0) = true then c t else min lo (c t)), (if ((k : Int) == 0) = true then c t else max hi (c t))) (by simp; omega) ?_
    simp only [go_sem, Nat.reduceEqDiff, Nat.reduceAdd, Nat.reduceLT, Nat.reduceLeDiff, reduceIte, and_self, decide_true, decide_false, beq_self_eq_true, g1, g2, g3, g6, g8, g9, g10]
    exact ⟨trivial, trivial, trivial, trivial, trivial, trivial, trivial, trivial, hd', by omega, trivial, hN⟩
theorem known_lt {r : Rl} (h : Near r) : ∀ t ∈ knownL r, checkR r = 0 ∧ t < 2 ^ r.feet.toNat := fun t ht => by
  unfold knownL at ht
  split at ht
  · rename_i h0; exact ⟨h0, RT_lt t ht⟩
  · cases ht
theorem feet_int {r : Rl} {L : Nat} (h : Ok r L) : r.feet = (L : Int) := h.feet
theorem refLeft_ok (r : Rl) (h : Near r) : RV ft 24 [encR r] (encB r (popc 16)) := by
  refine RV_of ft24 rfl ?_
  simp only [c24, r24]
  have hw : RV ft 63 [encR r, I64 0, I64 (IntKind.i64.wrap (r.feet - 1))] (encB r (popc 16)) := by
    refine whole63 r h 0 _ (popc 16) fun t ht => ?_
    obtain ⟨h0, hlt⟩ := known_lt h t ht
    have hok := h.ok h0
    have h1 := hok.one
    have h9 := hok.nine
    have hfe := hok.feet
    have e1 : IntKind.i64.wrap (r.feet - 1) = ((r.feet.toNat - 1 : Nat) : Int) := by rw [wrap_i64 _ (by omega) (by omega)]; omega
    have := Feet_ok t 0 (r.feet.toNat - 1) (by omega) (by omega)
    rw [feet_all t _ h1 (by omega) hlt] at this
    rw [e1]; exact this
  simp only [go_sem, Nat.reduceEqDiff, Nat.reduceAdd, Nat.reduceLT, Nat.reduceLeDiff, reduceIte, and_self, decide_true, decide_false, beq_self_eq_true, sn_ms, hot_ms, WB63, WVH_eq hw, true_and]
theorem refSplices_ok (r : Rl) (h : Near r) : RV ft 26 [encR r] (encB r splicesL) := by
  refine RV_of ft26 rfl ?_
  simp only [c26, r26]
  have hlen := known_len h
  simp only [go_sem, Nat.reduceEqDiff, Nat.reduceAdd, Nat.reduceLT, Nat.reduceLeDiff, reduceIte, and_self, decide_true, decide_false, beq_self_eq_true, sn_ms, hot_ms, WB65, WVH_eq (known_ok r h), true_and]
  refine WL_inv (α := Nat × List Nat × Nat × Nat) (fun q e mm => e 1 = .ptr 0 0 0 ∧ e 2 = .ptr 1 0 0 ∧ e 4 = .ptr 2 0 0 ∧ e 5 = .sl ((knownL r).map fun (i : Nat) => I64 i) .unk ∧ e 6 = I64 (errT r) ∧ e 7 = I64 q.1 ∧
    (knownL r).drop q.1 = q.2.1 ∧ q.1 ≤ (knownL r).length ∧ mm = ⟨[.live [encR r] 2, .live [.agg [I64 0, I64 0]] 2, .live [.agg [I64 q.2.2.1, I64 q.2.2.2]] 2], []⟩ ∧ LH splicesL ((knownL r).take q.1) q.2.2.1 q.2.2.2) (fun q => (knownL r).length - q.1) (0, knownL r, 0, 0) ?_ ?_
  · simp only [go_sem, Nat.reduceEqDiff, Nat.reduceAdd, Nat.reduceLT, Nat.reduceLeDiff, reduceIte, and_self, decide_true, decide_false, beq_self_eq_true]
    exact ⟨trivial, trivial, trivial, trivial, trivial, rfl, trivial, Nat.zero_le _, rfl, LH.empty _⟩
  rintro ⟨k, l, lo, hi⟩ e mm ⟨g1, g2, g4, g5, g6, g7, hd, hk, rfl, hL⟩
  dsimp only at g7 hd hk hL
  rcases l with _ | ⟨t, l⟩
  · have hk' := drop_nil hd
    rw [List.take_of_length_le hk'] at hL
    obtain ⟨rfl, rfl⟩ := hL.eq h
    simp only [go_sem, Nat.reduceEqDiff, Nat.reduceAdd, Nat.reduceLT, Nat.reduceLeDiff, reduceIte, and_self, decide_true, decide_false, beq_self_eq_true, g1, g2, g4, g5, g6, g7, List.length_map, dec_ge hk']
  · obtain ⟨hg, hd', hlt⟩ := drop_cons hd
    have hw : IntKind.i64.wrap ((k : Int) + 1) = ((k + 1 : Nat) : Int) := by rw [wrap_i64 _ (by omega) (by omega)]; rfl
    obtain ⟨h0, htl⟩ := known_lt h t (List.mem_of_getElem? hg)
    have hok := h.ok h0
    have h9 := hok.nine
    have hga := Gaps_ok t r.feet.toNat (by omega)
    rw [gaps_eq t _ htl (by omega), ← hok.feet] at hga
    have hN := hL.next hlt hg
    simp only [go_sem, Nat.reduceEqDiff, Nat.reduceAdd, Nat.reduceLT, Nat.reduceLeDiff, reduceIte, and_self, decide_true, decide_false, beq_self_eq_true, g1, g2, g4, g5, g6, g7, List.length_map, dec_lt hlt, dec_nn, Int.toNat_natCast, nats_get, hg, WB44, WVH_eq hga, true_and, WB66, WVH_eq (wider_ok _ _ _ _), hw, cast_if, cast_ifx]
    refine Nx_of (k + 1, l, (if ((k : Int) == 0) = true then splicesL t else min lo (splicesL t)), (if ((k : Int) == 0) = true then splicesL t else max hi (splicesL t))) (by simp; omega) ?_
    simp only [go_sem, Nat.reduceEqDiff, Nat.reduceAdd, Nat.reduceLT, Nat.reduceLeDiff, reduceIte, and_self, decide_true, decide_false, beq_self_eq_true, g1, g2, g4, g5, g6]
    exact ⟨trivial, trivial, trivial, trivial, trivial, trivial, hd', by omega, trivial, hN⟩
theorem refLongest_ok (r : Rl) (h : Near r) : RV ft 28 [encR r] (encB r longestL) := by
  refine RV_of ft28 rfl ?_
  simp only [c28, r28]
  have hlen := known_len h
  simp only [go_sem, Nat.reduceEqDiff, Nat.reduceAdd, Nat.reduceLT, Nat.reduceLeDiff, reduceIte, and_self, decide_true, decide_false, beq_self_eq_true, sn_ms, hot_ms, WB65, WVH_eq (known_ok r h), true_and]
  refine WL_inv (α := Nat × List Nat × Nat × Nat) (fun q e mm => e 1 = .ptr 0 0 0 ∧ e 2 = .ptr 1 0 0 ∧ e 4 = .ptr 2 0 0 ∧ e 5 = .sl ((knownL r).map fun (i : Nat) => I64 i) .unk ∧ e 6 = I64 (errT r) ∧ e 7 = I64 q.1 ∧
    (knownL r).drop q.1 = q.2.1 ∧ q.1 ≤ (knownL r).length ∧ mm = ⟨[.live [encR r] 2, .live [.agg [I64 0, I64 0]] 2, .live [.agg [I64 q.2.2.1, I64 q.2.2.2]] 2], []⟩ ∧ LH longestL ((knownL r).take q.1) q.2.2.1 q.2.2.2) (fun q => (knownL r).length - q.1) (0, knownL r, 0, 0) ?_ ?_
  · simp only [go_sem, Nat.reduceEqDiff, Nat.reduceAdd, Nat.reduceLT, Nat.reduceLeDiff, reduceIte, and_self, decide_true, decide_false, beq_self_eq_true]
    exact ⟨trivial, trivial, trivial, trivial, trivial, rfl, trivial, Nat.zero_le _, rfl, LH.empty _⟩
  rintro ⟨k, l, lo, hi⟩ e mm ⟨g1, g2, g4, g5, g6, g7, hd, hk, rfl, hL⟩
  dsimp only at g7 hd hk hL
  rcases l with _ | ⟨t, l⟩
  · have hk' := drop_nil hd
    rw [List.take_of_length_le hk'] at hL
    obtain ⟨rfl, rfl⟩ := hL.eq h
    simp only [go_sem, Nat.reduceEqDiff, Nat.reduceAdd, Nat.reduceLT, Nat.reduceLeDiff, reduceIte, and_self, decide_true, decide_false, beq_self_eq_true, g1, g2, g4, g5, g6, g7, List.length_map, dec_ge hk']
  · obtain ⟨hg, hd', hlt⟩ := drop_cons hd
    have hw : IntKind.i64.wrap ((k : Int) + 1) = ((k + 1 : Nat) : Int) := by rw [wrap_i64 _ (by omega) (by omega)]; rfl
    obtain ⟨h0, htl⟩ := known_lt h t (List.mem_of_getElem? hg)
    have hok := h.ok h0
    have h9 := hok.nine
    have hga := Row_ok t r.feet.toNat (by omega)
    rw [row_eq t _ htl (by omega), ← hok.feet] at hga
    have hN := hL.next hlt hg
    simp only [go_sem, Nat.reduceEqDiff, Nat.reduceAdd, Nat.reduceLT, Nat.reduceLeDiff, reduceIte, and_self, decide_true, decide_false, beq_self_eq_true, g1, g2, g4, g5, g6, g7, List.length_map, dec_lt hlt, dec_nn, Int.toNat_natCast, nats_get, hg, WB45, WVH_eq hga, true_and, WB66, WVH_eq (wider_ok _ _ _ _), hw, cast_if, cast_ifx]
    refine Nx_of (k + 1, l, (if ((k : Int) == 0) = true then longestL t else min lo (longestL t)), (if ((k : Int) == 0) = true then longestL t else max hi (longestL t))) (by simp; omega) ?_
    simp only [go_sem, Nat.reduceEqDiff, Nat.reduceAdd, Nat.reduceLT, Nat.reduceLeDiff, reduceIte, and_self, decide_true, decide_false, beq_self_eq_true, g1, g2, g4, g5, g6]
    exact ⟨trivial, trivial, trivial, trivial, trivial, trivial, hd', by omega, trivial, hN⟩
/-- What some sets say of a foot. -/
def footOf (l : List Nat) (n : Nat) : Int := if l.all (fun t => t.testBit n) then 1 else if l.all (fun t => !t.testBit n) then 2 else 3
theorem foot68 (l : List Nat) (n : Nat) (hn : n < 16) (hl : l.length ≤ 512) : RV ft 68 [.sl (l.map fun (i : Nat) => I64 i) .unk, I64 n] (I64 (footOf l n)) := by
  refine RV_of ft68 rfl ?_
  simp only [c68, r68]
  simp only [go_sem, Nat.reduceEqDiff, Nat.reduceAdd, Nat.reduceLT, Nat.reduceLeDiff, reduceIte, and_self, decide_true, decide_false, beq_self_eq_true]
  refine WL_inv (α := Nat × List Nat × Nat) (fun q e mm => e 0 = .sl (l.map fun (i : Nat) => I64 i) .unk ∧ e 1 = I64 n ∧ e 5 = I64 q.2.2 ∧ e 6 = I64 q.1 ∧ l.drop q.1 = q.2.1 ∧ q.1 ≤ l.length ∧ q.2.2 = ((l.take q.1).filter fun t => t.testBit n).length) (fun q => l.length - q.1) (0, l, 0) ?_ ?_
  · simp only [go_sem, Nat.reduceEqDiff, Nat.reduceAdd, Nat.reduceLT, Nat.reduceLeDiff, reduceIte, and_self, decide_true, decide_false, beq_self_eq_true]
    exact ⟨trivial, trivial, rfl, rfl, trivial, Nat.zero_le _, rfl⟩
  rintro ⟨k, ts, y⟩ e mm ⟨g0, g1, g5, g6, hd, hk, hy⟩
  dsimp only at g5 g6 hd hk hy
  rcases ts with _ | ⟨t, ts⟩
  · have hk' := drop_nil hd
    rw [List.take_of_length_le hk'] at hy
    have hyl : y ≤ l.length := by rw [hy]; exact List.length_filter_le _ _
    simp only [go_sem, Nat.reduceEqDiff, Nat.reduceAdd, Nat.reduceLT, Nat.reduceLeDiff, reduceIte, and_self, decide_true, decide_false, beq_self_eq_true, g0, g1, g5, g6, List.length_map, dec_ge hk']
    cases c1 : ((y : Int) == (l.length : Int))
    case true =>
      have : y = l.length := by have h : (y : Int) = (l.length : Int) := by simpa using c1
                                omega
      have h1 : l.all (fun t => t.testBit n) = true := by
        rw [List.all_eq_true]
        exact List.length_filter_eq_length_iff.1 (hy.symm.trans this)
      simp only [go_sem, Nat.reduceEqDiff, Nat.reduceAdd, Nat.reduceLT, Nat.reduceLeDiff, reduceIte, and_self, decide_true, decide_false, beq_self_eq_true, footOf, h1]
    case false =>
      have : y ≠ l.length := by have h : ¬(y : Int) = (l.length : Int) := by simpa using c1
                                omega
      have h1 : l.all (fun t => t.testBit n) = false := by
        rw [Bool.eq_false_iff]
        intro h
        rw [List.all_eq_true] at h
        exact this (hy.trans (List.length_filter_eq_length_iff.2 h))
      simp only [go_sem, Nat.reduceEqDiff, Nat.reduceAdd, Nat.reduceLT, Nat.reduceLeDiff, reduceIte, and_self, decide_true, decide_false, beq_self_eq_true, g5]
      cases c2 : ((y : Int) == 0)
      case true =>
        have h0 : y = 0 := by simpa using c2
        have h2 : l.all (fun t => !t.testBit n) = true := by
          rw [h0] at hy
          have := List.length_eq_zero_iff.1 hy.symm
          rw [List.filter_eq_nil_iff] at this
          rw [List.all_eq_true]
          intro t ht
          simpa using this t ht
        simp only [go_sem, Nat.reduceEqDiff, Nat.reduceAdd, Nat.reduceLT, Nat.reduceLeDiff, reduceIte, and_self, decide_true, decide_false, beq_self_eq_true, footOf, h1, h2, Bool.false_eq_true]
      case false =>
        have h0 : y ≠ 0 := by simpa using c2
        have h2 : l.all (fun t => !t.testBit n) = false := by
          rw [Bool.eq_false_iff]
          intro h
          rw [List.all_eq_true] at h
          refine h0 (hy.trans ?_)
          rw [List.length_eq_zero_iff, List.filter_eq_nil_iff]
          intro t ht
          simpa using h t ht
        simp only [go_sem, Nat.reduceEqDiff, Nat.reduceAdd, Nat.reduceLT, Nat.reduceLeDiff, reduceIte, and_self, decide_true, decide_false, beq_self_eq_true, footOf, h1, h2, Bool.false_eq_true]
  · obtain ⟨hg, hd', hlt⟩ := drop_cons hd
    have hw : IntKind.i64.wrap ((k : Int) + 1) = ((k + 1 : Nat) : Int) := by rw [wrap_i64 _ (by omega) (by omega)]; rfl
    have hft := Feet_ok t n n (by omega) (by omega)
    rw [feet_one t n hn] at hft
    have htk : l.take (k + 1) = l.take k ++ [t] := by rw [List.take_add_one, hg]; rfl
    have hyl : y ≤ k := by rw [hy]; exact Nat.le_trans (List.length_filter_le _ _) (by rw [List.length_take]; omega)
    have hwy : IntKind.i64.wrap ((y : Int) + (((if t.testBit n then 1 else 0 : Nat)) : Int)) = ((y + (if t.testBit n then 1 else 0) : Nat) : Int) := by
      split <;> rw [wrap_i64 _ (by omega) (by omega)] <;> rfl
    simp only [go_sem, Nat.reduceEqDiff, Nat.reduceAdd, Nat.reduceLT, Nat.reduceLeDiff, reduceIte, and_self, decide_true, decide_false, beq_self_eq_true, g0, g1, g5, g6, List.length_map, dec_lt hlt, dec_nn, Int.toNat_natCast, nats_get, hg, WB42, WVH_eq hft, true_and, hwy, hw]
    refine Nx_of (k + 1, ts, y + (if t.testBit n then 1 else 0)) (by simp; omega) ?_
    simp only [go_sem, Nat.reduceEqDiff, Nat.reduceAdd, Nat.reduceLT, Nat.reduceLeDiff, reduceIte, and_self, decide_true, decide_false, beq_self_eq_true, g0, g1]
    refine ⟨trivial, trivial, trivial, trivial, hd', by omega, ?_⟩
    rw [htk, List.filter_append, List.length_append, hy, List.filter_cons, List.filter_nil]
    cases t.testBit n <;> rfl
end Go.Ab.T
end

section
namespace Go.Ab.T
set_option maxRecDepth 8000
set_option linter.unusedSimpArgs false
set_option linter.unusedVariables false
set_option maxHeartbeats 2000000
theorem footK_eq {r : Rl} {n : Int} (hn : Near r) (h0 : checkR r = 0) (h1 : 0 ≤ n) (h2 : n < r.feet) (hne : TL r ≠ []) : footE r n = 0 ∧ footK r n = footOf (knownL r) n.toNat := by
  have hok := hn.ok h0
  have h9 := hok.nine
  have hfe := hok.feet
  have harg : okArg r n n := ⟨h1, Int.le_refl n, h2⟩
  have he : wholeE r n n = 0 := by unfold wholeE; rw [if_pos h0, if_pos harg, err_cases h0, if_neg hne]
  refine ⟨he, ?_⟩
  obtain ⟨a1, t1, a2, a3⟩ := low_spec h0 hne fun t => popc 16 (t &&& btw n.toNat n.toNat)
  obtain ⟨b1, t2, b2, b3⟩ := high_spec h0 hne fun t => popc 16 (t &&& btw n.toNat n.toNat)
  have hlo : wholeLo r n n = lowT r fun t => popc 16 (t &&& btw n.toNat n.toNat) := by unfold wholeLo; rw [if_pos ⟨h0, harg⟩]
  have hhi : wholeHi r n n = highT r fun t => popc 16 (t &&& btw n.toNat n.toNat) := by unfold wholeHi; rw [if_pos ⟨h0, harg⟩]
  have hpf : ∀ t, popc 16 (t &&& btw n.toNat n.toNat) = if t.testBit n.toNat then 1 else 0 := fun t => popc_foot t n.toNat (by omega)
  unfold footK footOf
  rw [if_pos he, hlo, hhi]
  cases c1 : (knownL r).all fun t => t.testBit n.toNat
  · have : ∃ t ∈ TL r, t.testBit n.toNat = false := by
      rw [List.all_eq_false] at c1
      obtain ⟨t, h3, h4⟩ := c1
      exact ⟨t, (known_mem hn h0 t).1 h3, by simpa using h4⟩
    obtain ⟨t, h3, h4⟩ := this
    have h5 := a1 t h3
    rw [hpf, h4] at h5
    rw [if_neg (by simp at h5; omega)]
    simp only [Bool.false_eq_true, if_false]
    cases c2 : (knownL r).all fun t => !t.testBit n.toNat
    · rw [List.all_eq_false] at c2
      obtain ⟨t', h6, h7⟩ := c2
      have h8 := b1 t' ((known_mem hn h0 t').1 h6)
      have h9' : t'.testBit n.toNat = true := by simpa using h7
      rw [hpf, h9'] at h8
      rw [if_neg (by simp at h8; omega)]
      simp
    · rw [List.all_eq_true] at c2
      have h6 := c2 t2 ((known_mem hn h0 t2).2 b2)
      have h7 : t2.testBit n.toNat = false := by simpa using h6
      rw [hpf, h7] at b3
      rw [if_pos (by simp at b3; omega)]
      simp
  · rw [List.all_eq_true] at c1
    have h6 := c1 t1 ((known_mem hn h0 t1).2 a2)
    rw [hpf, h6] at a3
    rw [if_pos (by simp at a3; omega)]
    simp
theorem check_ne {r : Rl} (h0 : ¬checkR r = 0) : (checkR r != 0) = true := by simpa using h0
theorem errT_ne {r : Rl} (h0 : checkR r = 0) (hn : ¬TL r = []) : errT r = 0 := by rw [err_cases h0, if_neg hn]
theorem errT_none {r : Rl} (h0 : checkR r = 0) (hn : TL r = []) : errT r = 3 := by rw [err_cases h0, if_pos hn]
theorem refFoot_ok (r : Rl) (h : Near r) (n : Int) : RV ft 30 [encR r, I64 n] (.tup [I64 (footK r n), I64 (footE r n)]) := by
  refine RV_of ft30 rfl ?_
  simp only [c30, r30]
  by_cases h0 : checkR r = 0
  · have hok := h.ok h0
    have h9 := hok.nine
    have h1 := hok.one
    have hfe := hok.feet
    have hc := refCheck_ok r h.few
    rw [h0] at hc
    have hw : IntKind.i64.wrap (r.feet - 1) = r.feet - 1 := wrap_i64 _ (by omega) (by omega)
    cases ha : (decide (0 ≤ n) && decide (n ≤ r.feet - 1))
    · have harg : ¬okArg r n n := by
        rintro ⟨q1, q2, q3⟩
        rw [decide_eq_true q1, decide_eq_true (show n ≤ r.feet - 1 by omega)] at ha
        cases ha
      have he : footE r n = 1 := by unfold footE wholeE; rw [if_pos h0, if_neg harg]
      have hk : footK r n = 0 := by unfold footK; rw [if_neg (by show ¬footE r n = 0; rw [he]; decide)]
      simp only [go_sem, Nat.reduceEqDiff, Nat.reduceAdd, Nat.reduceLT, Nat.reduceLeDiff, reduceIte, and_self, decide_true, decide_false, beq_self_eq_true, sn_ms, hot_ms, WB22, WVH_eq hc, true_and, show ((0 : Int) != 0) = false from rfl, hw, WB59, WVH_eq (within_ok _ _ _), ha, Bool.not_false, he, hk]
    · have hr : 0 ≤ n ∧ n < r.feet := by simp only [Bool.and_eq_true, decide_eq_true_eq] at ha; omega
      obtain ⟨k, rfl⟩ : ∃ k : Nat, n = k := ⟨n.toNat, by omega⟩
      by_cases ht : TL r = []
      · have hE := errT_none h0 ht
        have he : footE r k = 3 := by unfold footE wholeE; rw [if_pos h0, if_pos ⟨hr.1, Int.le_refl _, hr.2⟩, hE]
        have hk : footK r k = 0 := by unfold footK; rw [if_neg (by show ¬footE r k = 0; rw [he]; decide)]
        have hkn := known_ok r h
        rw [hE] at hkn
        simp only [go_sem, Nat.reduceEqDiff, Nat.reduceAdd, Nat.reduceLT, Nat.reduceLeDiff, reduceIte, and_self, decide_true, decide_false, beq_self_eq_true, sn_ms, hot_ms, WB22, WVH_eq hc, true_and, show ((0 : Int) != 0) = false from rfl, hw, WB59, WVH_eq (within_ok _ _ _), ha, Bool.not_true, he, hk, WB65, WVH_eq hkn, show ((3 : Int) != 0) = true from rfl]
      · have hE := errT_ne h0 ht
        obtain ⟨he, hk⟩ := footK_eq h h0 hr.1 hr.2 ht
        rw [Int.toNat_natCast] at hk
        have hkn := known_ok r h
        rw [hE] at hkn
        have hf := foot68 (knownL r) k (by omega) (known_len h)
        rw [← hk] at hf
        simp only [go_sem, Nat.reduceEqDiff, Nat.reduceAdd, Nat.reduceLT, Nat.reduceLeDiff, reduceIte, and_self, decide_true, decide_false, beq_self_eq_true, sn_ms, hot_ms, WB22, WVH_eq hc, true_and, show ((0 : Int) != 0) = false from rfl, hw, WB59, WVH_eq (within_ok _ _ _), ha, Bool.not_true, he, WB65, WVH_eq hkn, sn_nats, hot_nats, WB68, WVH_eq hf]
  · have he : footE r n = checkR r := by unfold footE wholeE; rw [if_neg h0]
    have hk : footK r n = 0 := by unfold footK; rw [if_neg (by show ¬footE r n = 0; rw [he]; exact h0)]
    simp only [go_sem, Nat.reduceEqDiff, Nat.reduceAdd, Nat.reduceLT, Nat.reduceLeDiff, reduceIte, and_self, decide_true, decide_false, beq_self_eq_true, sn_ms, hot_ms, WB22, WVH_eq (refCheck_ok r h.few), true_and, check_ne h0, he, hk]
theorem refWhole_ok (r : Rl) (h : Near r) (a b : Int) : RV ft 32 [encR r, I64 a, I64 b] (.tup [.agg [I64 (wholeLo r a b : Nat), I64 (wholeHi r a b : Nat)], I64 (wholeE r a b)]) := by
  refine RV_of ft32 rfl ?_
  simp only [c32, r32]
  by_cases h0 : checkR r = 0
  · have hok := h.ok h0
    have h9 := hok.nine
    have h1 := hok.one
    have hfe := hok.feet
    have hc := refCheck_ok r h.few
    rw [h0] at hc
    by_cases harg : okArg r a b
    · obtain ⟨q1, q2, q3⟩ := harg
      have e1 : wholeE r a b = errT r := by unfold wholeE; rw [if_pos h0, if_pos ⟨q1, q2, q3⟩]
      have e2 : wholeLo r a b = lowT r fun t => popc 16 (t &&& btw a.toNat b.toNat) := by unfold wholeLo; rw [if_pos ⟨h0, q1, q2, q3⟩]
      have e3 : wholeHi r a b = highT r fun t => popc 16 (t &&& btw a.toNat b.toNat) := by unfold wholeHi; rw [if_pos ⟨h0, q1, q2, q3⟩]
      obtain ⟨x, rfl⟩ : ∃ k : Nat, a = k := ⟨a.toNat, by omega⟩
      obtain ⟨y, rfl⟩ : ∃ k : Nat, b = k := ⟨b.toNat, by omega⟩
      rw [Int.toNat_natCast, Int.toNat_natCast] at e2 e3
      have hv := whole63 r h x y (fun t => popc 16 (t &&& btw x y)) fun t ht => by
        have := Feet_ok t x y (by omega) (by omega)
        rw [feet_popc t x y (by omega) (by omega)] at this
        exact this
      simp only [go_sem, Nat.reduceEqDiff, Nat.reduceAdd, Nat.reduceLT, Nat.reduceLeDiff, reduceIte, and_self, decide_true, decide_false, beq_self_eq_true, sn_ms, hot_ms, WB22, WVH_eq hc, true_and, show ((0 : Int) != 0) = false from rfl, WB59, WVH_eq (within_ok _ _ _), decide_eq_true q1, decide_eq_true q2, Bool.and_self, Bool.not_true, decide_eq_false (show ¬ r.feet ≤ (y : Int) by omega), WB63, WVH_eq hv, e1, e2, e3]
    · have e1 : wholeE r a b = 1 := by unfold wholeE; rw [if_pos h0, if_neg harg]
      have e2 : wholeLo r a b = 0 := by unfold wholeLo; rw [if_neg fun hh => harg hh.2]
      have e3 : wholeHi r a b = 0 := by unfold wholeHi; rw [if_neg fun hh => harg hh.2]
      cases ha : (decide (0 ≤ a) && decide (a ≤ b))
      · simp only [go_sem, Nat.reduceEqDiff, Nat.reduceAdd, Nat.reduceLT, Nat.reduceLeDiff, reduceIte, and_self, decide_true, decide_false, beq_self_eq_true, sn_ms, hot_ms, WB22, WVH_eq hc, true_and, show ((0 : Int) != 0) = false from rfl, WB59, WVH_eq (within_ok _ _ _), ha, Bool.not_false, e1, e2, e3, fillParts_nil]
        rfl
      · have hq : decide (r.feet ≤ b) = true := by
          simp only [Bool.and_eq_true, decide_eq_true_eq] at ha
          refine decide_eq_true (Classical.byContradiction fun hh => harg ⟨ha.1, ha.2, by omega⟩)
        simp only [go_sem, Nat.reduceEqDiff, Nat.reduceAdd, Nat.reduceLT, Nat.reduceLeDiff, reduceIte, and_self, decide_true, decide_false, beq_self_eq_true, sn_ms, hot_ms, WB22, WVH_eq hc, true_and, show ((0 : Int) != 0) = false from rfl, WB59, WVH_eq (within_ok _ _ _), ha, Bool.not_true, hq, e1, e2, e3, fillParts_nil]
        rfl
  · have e1 : wholeE r a b = checkR r := by unfold wholeE; rw [if_neg h0]
    have e2 : wholeLo r a b = 0 := by unfold wholeLo; rw [if_neg fun hh => h0 hh.1]
    have e3 : wholeHi r a b = 0 := by unfold wholeHi; rw [if_neg fun hh => h0 hh.1]
    simp only [go_sem, Nat.reduceEqDiff, Nat.reduceAdd, Nat.reduceLT, Nat.reduceLeDiff, reduceIte, and_self, decide_true, decide_false, beq_self_eq_true, sn_ms, hot_ms, WB22, WVH_eq (refCheck_ok r h.few), true_and, check_ne h0, e1, e2, e3, fillParts_nil]
    rfl
theorem CheckShow_ok (r : Rl) (h : Near r) : RV ft 34 [encR r] (I64 (errT r)) := by
  refine RV_of ft34 rfl ?_
  simp only [c34, r34]
  simp only [go_sem, Nat.reduceEqDiff, Nat.reduceAdd, Nat.reduceLT, Nat.reduceLeDiff, reduceIte, and_self, decide_true, decide_false, beq_self_eq_true, sn_ms, hot_ms, WB65, WVH_eq (known_ok r h), true_and]
theorem IsTruth_ok (r : Rl) (L : Nat) (h : Ok r L) (s : Nat) (hs : s ∈ truthsL r L) : RV ft 36 [encR r, I64 s] (.bool true) := by
  refine RV_of ft36 rfl ?_
  simp only [c36, r36]
  have h1 := h.one
  have h9 := h.nine
  have hP := Nat.two_pow_pos L
  have hP9 := two_pow_le (a := L) (b := 9) (by omega)
  have hlt := truths_lt h hs
  obtain ⟨c, hc, hV⟩ := costs_ok r L h
  have eL : IntKind.u64.wrap (L : Int) = (L : Int) := wrap_u64 _ (by omega) (by omega)
  have eS : IntKind.i64.wrap (((2 ^ L : Nat) : Int) - 1) = ((2 ^ L - 1 : Nat) : Int) := by
    rw [wrap_i64 _ (by omega) (by omega)]; omega
  have hz := (cost_zero h hc hlt).2 hs
  simp only [go_sem, Nat.reduceEqDiff, Nat.reduceAdd, Nat.reduceLT, Nat.reduceLeDiff, reduceIte, and_self, decide_true, decide_false, beq_self_eq_true, sn_ms, hot_ms, h.feet, eL, decide_eq_false (show ¬ (L : Int) < 0 by omega), shl1_i64 L (by omega), eS, WB59, WVH_eq (within_ok _ _ _), decide_eq_true (show (0 : Int) ≤ (s : Int) by omega), decide_eq_true (show (s : Int) ≤ ((2 ^ L - 1 : Nat) : Int) by omega), Bool.and_self, true_and]
  have hV' : RV ft 55 [.agg [.int .i64 (L : Int), .sl (r.marks.map encM) .unk]] (.sl (encC (2 ^ L) (costF c (claimsL r))) .unk) := by
    have := h.feet
    rw [← this]; exact hV
  simp only [go_sem, Nat.reduceEqDiff, Nat.reduceAdd, Nat.reduceLT, Nat.reduceLeDiff, reduceIte, and_self, decide_true, decide_false, beq_self_eq_true, sn_ms, hot_ms, WB55, WVH_eq hV', dec_nn, Int.toNat_natCast, encC_get _ _ _ hlt, hz, true_and]
  rfl
end Go.Ab.T
end

section
namespace Go.Ab.T
set_option maxRecDepth 8000
set_option linter.unusedSimpArgs false
set_option linter.unusedVariables false
set_option maxHeartbeats 2000000
theorem shl1n (n : Nat) (h : n < 62) : IntKind.i64.wrap ((1 : Int) * 2 ^ (min n 64)) = ((2 ^ n : Nat) : Int) := by
  have := shl1_i64 n h
  rwa [Int.toNat_natCast] at this
theorem listL_sorted (x L : Nat) : (listL x L).Pairwise (· < ·) := List.Pairwise.filter _ List.pairwise_lt_range
theorem Set_ok (x L : Nat) (h1 : 1 ≤ L) (h : L ≤ 16) (hx : x < 2 ^ L) : RV ft 35 [.sl ((listL x L).map fun (i : Nat) => I64 i) .unk, I64 L] (.tup [I64 x, .bool true]) := by
  obtain ⟨l, hl⟩ : ∃ l, l = listL x L := ⟨_, rfl⟩
  have hmem : ∀ i, i ∈ l ↔ i < L ∧ x.testBit i = true := fun i => by rw [hl]; exact listL_mem x L i
  have hsort : l.Pairwise (· < ·) := by rw [hl]; exact listL_sorted x L
  have hlen : l.length ≤ L := by rw [hl]; unfold listL; exact Nat.le_trans (List.length_filter_le _ _) (by simp)
  have hP := two_pow_le (a := L) (b := 16) h
  rw [← hl]
  refine RV_of ft35 rfl ?_
  simp only [c35, r35]
  simp only [go_sem, Nat.reduceEqDiff, Nat.reduceAdd, Nat.reduceLT, Nat.reduceLeDiff, reduceIte, and_self, decide_true, decide_false, beq_self_eq_true]
  refine WL_inv (α := Nat × List Nat × Nat) (fun q e mm => e 0 = .sl (l.map fun (i : Nat) => I64 i) .unk ∧ e 1 = I64 L ∧ e 6 = I64 q.2.2 ∧ e 7 = I64 q.1 ∧ l.drop q.1 = q.2.1 ∧ q.1 ≤ l.length ∧ q.2.2 < 2 ^ L ∧ ∀ i, q.2.2.testBit i = true ↔ i ∈ l.take q.1) (fun q => l.length - q.1) (0, l, 0) ?_ ?_
  · simp only [go_sem, Nat.reduceEqDiff, Nat.reduceAdd, Nat.reduceLT, Nat.reduceLeDiff, reduceIte, and_self, decide_true, decide_false, beq_self_eq_true]
    exact ⟨trivial, trivial, rfl, rfl, trivial, Nat.zero_le _, Nat.two_pow_pos L, fun i => by simp⟩
  rintro ⟨k, ts, s⟩ e mm ⟨g0, g1, g6, g7, hd, hk, hs, hb⟩
  dsimp only at g6 g7 hd hk hs hb
  rcases ts with _ | ⟨t, ts⟩
  · have hk' := drop_nil hd
    rw [List.take_of_length_le hk'] at hb
    have hsx : s = x := by
      apply Nat.eq_of_testBit_eq
      intro i
      rw [Bool.eq_iff_iff, hb, hmem]
      constructor
      · exact fun h => h.2
      · intro h
        refine ⟨Classical.byContradiction fun hn => ?_, h⟩
        rw [Nat.testBit_lt_two_pow (Nat.lt_of_lt_of_le hx (two_pow_le (by omega)))] at h
        cases h
    simp only [go_sem, Nat.reduceEqDiff, Nat.reduceAdd, Nat.reduceLT, Nat.reduceLeDiff, reduceIte, and_self, decide_true, decide_false, beq_self_eq_true, g0, g1, g6, g7, List.length_map, dec_ge hk', hsx]
  · obtain ⟨hg, hd', hlt⟩ := drop_cons hd
    have hw : IntKind.i64.wrap ((k : Int) + 1) = ((k + 1 : Nat) : Int) := by rw [wrap_i64 _ (by omega) (by omega)]; rfl
    have hwL : IntKind.i64.wrap ((L : Int) - 1) = ((L - 1 : Nat) : Int) := by rw [wrap_i64 _ (by omega) (by omega)]; omega
    have htL : t < L := ((hmem t).1 (List.mem_of_getElem? hg)).1
    have htk : l.take (k + 1) = l.take k ++ [t] := by rw [List.take_add_one, hg]; rfl
    have ht2 := two_pow_le (a := t) (b := 16) (by omega)
    have eor : orI .i64 ((s : Nat) : Int) ((2 ^ t : Nat) : Int) = ((s ||| 2 ^ t : Nat) : Int) := orI_nat64 _ _ (by omega) (by omega)
    have et : IntKind.u64.wrap (t : Int) = (t : Int) := wrap_u64 _ (by omega) (by omega)
    have hnew : (s ||| 2 ^ t) < 2 ^ L := Nat.or_lt_two_pow hs (Nat.pow_lt_pow_right (by omega) htL)
    have hbit : ∀ i, (s ||| 2 ^ t).testBit i = true ↔ i ∈ l.take (k + 1) := fun i => by
      rw [htk, Nat.testBit_or, Nat.testBit_two_pow, Bool.or_eq_true, hb, List.mem_append, List.mem_singleton, decide_eq_true_eq]
      exact ⟨fun h => h.imp id Eq.symm, fun h => h.imp id Eq.symm⟩
    by_cases hk0 : k = 0
    · subst hk0
      simp only [go_sem, Nat.reduceEqDiff, Nat.reduceAdd, Nat.reduceLT, Nat.reduceLeDiff, reduceIte, and_self, decide_true, decide_false, beq_self_eq_true, g0, g1, g6, g7, List.length_map, dec_lt hlt, dec_nn, Int.toNat_natCast, nats_get, hg, hwL, WB59, WVH_eq (within_ok _ _ _), decide_eq_true (show (t : Int) ≤ ((L - 1 : Nat) : Int) by omega), Bool.and_self, Bool.not_true, true_and, decide_eq_false (show ¬ (0 : Int) < ((0 : Nat) : Int) by omega), et, decide_eq_false (show ¬ (t : Int) < 0 by omega), shl1n t (by omega), eor, hw]
      refine Nx_of (0 + 1, ts, s ||| 2 ^ t) (by simp; omega) ?_
      simp only [go_sem, Nat.reduceEqDiff, Nat.reduceAdd, Nat.reduceLT, Nat.reduceLeDiff, reduceIte, and_self, decide_true, decide_false, beq_self_eq_true, g0, g1]
      exact ⟨trivial, trivial, trivial, trivial, hd', by omega, hnew, hbit⟩
    · obtain ⟨j, rfl⟩ : ∃ j, k = j + 1 := ⟨k - 1, by omega⟩
      have hwj : IntKind.i64.wrap (((j + 1 : Nat) : Int) - 1) = ((j : Nat) : Int) := by
        rw [wrap_i64 _ (by omega) (by omega)]; first | done | omega | simp
      obtain ⟨u, hu⟩ : ∃ u, l[j]? = some u := ⟨l[j], by simp⟩
      have hut : u < t := by
        obtain ⟨p1, p2⟩ := List.getElem?_eq_some_iff.1 hu
        obtain ⟨p3, p4⟩ := List.getElem?_eq_some_iff.1 hg
        have := List.pairwise_iff_getElem.1 hsort j (j + 1) p1 p3 (by omega)
        rw [p2, p4] at this; exact this
      simp only [go_sem, Nat.reduceEqDiff, Nat.reduceAdd, Nat.reduceLT, Nat.reduceLeDiff, reduceIte, and_self, decide_true, decide_false, beq_self_eq_true, g0, g1, g6, g7, List.length_map, dec_lt hlt, dec_nn, Int.toNat_natCast, nats_get, hg, hwL, WB59, WVH_eq (within_ok _ _ _), decide_eq_true (show (t : Int) ≤ ((L - 1 : Nat) : Int) by omega), Bool.and_self, Bool.not_true, true_and, decide_eq_true (show (0 : Int) < ((j + 1 : Nat) : Int) by omega), hwj, hu, decide_eq_false (show ¬ (t : Int) ≤ (u : Int) by omega), et, decide_eq_false (show ¬ (t : Int) < 0 by omega), shl1n t (by omega), eor, hw]
      refine Nx_of (j + 1 + 1, ts, s ||| 2 ^ t) (by simp; omega) ?_
      simp only [go_sem, Nat.reduceEqDiff, Nat.reduceAdd, Nat.reduceLT, Nat.reduceLeDiff, reduceIte, and_self, decide_true, decide_false, beq_self_eq_true, g0, g1]
      exact ⟨trivial, trivial, trivial, trivial, hd', by omega, hnew, hbit⟩
end Go.Ab.T
end

section
namespace Go.Ab.T
set_option maxRecDepth 8000
set_option linter.unusedSimpArgs false
set_option linter.unusedVariables false
set_option maxHeartbeats 4000000
theorem RV_of_WR {f : FuncId} {as : List AV} {v : AV} (h : WR ft (.f f) as .nil fun u m => snap m dep u = v) : RV ft f as v := by
  obtain ⟨n, p, e, q⟩ := h
  exact ⟨n, by simp [callV, e, q]⟩
theorem take_ms (l : List Mk) : (l.map encM).take l.length = l.map encM := List.take_of_length_le (by simp)
theorem CopyV_ok (r : Rl) (hl : r.marks.length < 1000000) : RV ft 16 [encR r] (encR r) := by
  refine RV_of_WR (Copy_ok r hl _ (fun h => ?_) fun _ => ?_)
  · unfold encR; rw [h]; rfl
  · simp only [go_sem, Nat.reduceEqDiff, Nat.reduceAdd, Nat.reduceLT, Nat.reduceLeDiff, reduceIte, and_self, decide_true, decide_false, beq_self_eq_true, Mem.elems, List.length_map, Nat.zero_add, Nat.le_refl, take_ms, sn_ms, dep]
theorem ReelFeet_run (r : Rl) (x y z : Int) : RV ft 4 [encR r, .agg [I64 x, I64 y, I64 z]] (.bool true) := by
  refine RV_of ft4 rfl ?_
  simp only [c4, r4]
  cases hr : farR r
  case true => simp only [go_sem, Nat.reduceEqDiff, Nat.reduceAdd, Nat.reduceLT, Nat.reduceLeDiff, reduceIte, and_self, decide_true, decide_false, beq_self_eq_true, sn_ms, hot_ms, WB14, WVH_eq (Far_ok r), true_and, hr, WB15, WVH_eq works_ok]
  have hn := near_of hr
  have hc := Far_ok r
  rw [hr] at hc
  simp only [go_sem, Nat.reduceEqDiff, Nat.reduceAdd, Nat.reduceLT, Nat.reduceLeDiff, reduceIte, and_self, decide_true, decide_false, beq_self_eq_true, sn_ms, hot_ms, WB14, WVH_eq hc, true_and, WF16, WVH_eq (CopyV_ok r hn.few), WB29, WVH_eq (Foot_ok r hn x), WB30, WVH_eq (refFoot_ok r hn x), WB31, WVH_eq (Whole_ok r hn y z), WB32, WVH_eq (refWhole_ok r hn y z), WB15, WVH_eq works_ok, Bool.false_eq_true]
theorem showL_bad {r : Rl} (h : errT r ≠ 0) : showL r = [] := by
  unfold showL
  split
  · rename_i h0
    unfold errT at h
    rw [if_pos h0] at h
    split at h
    · rename_i h1; rw [h1]
    · exact absurd rfl h
  · rfl
theorem ReelShows_run (r : Rl) : RV ft 5 [encR r] (.bool true) := by
  refine RV_of ft5 rfl ?_
  simp only [c5, r5]
  cases hr : farR r
  case true => simp only [go_sem, Nat.reduceEqDiff, Nat.reduceAdd, Nat.reduceLT, Nat.reduceLeDiff, reduceIte, and_self, decide_true, decide_false, beq_self_eq_true, sn_ms, hot_ms, WB14, WVH_eq (Far_ok r), true_and, hr, WB15, WVH_eq works_ok]
  have hn := near_of hr
  have hc := Far_ok r
  have e1 := Show_ok r hn
  have e2 := CheckShow_ok r hn
  rw [hr] at hc
  by_cases hz : errT r = 0
  · have h0 : checkR r = 0 := by
      refine Classical.byContradiction fun h0 => ?_
      unfold errT at hz
      rw [if_neg h0] at hz
      exact h0 hz
    have hok := hn.ok h0
    have h9 := hok.nine
    have h1 := hok.one
    have hne : TL r ≠ [] := fun hh => by rw [errT_none h0 hh] at hz; cases hz
    cases hT : TL r with
    | nil => exact absurd hT hne
    | cons x l =>
      have hx : x ∈ TL r := by rw [hT]; simp
      have hsl : showL r = listL x r.feet.toNat := by unfold showL; rw [if_pos h0, hT]
      have hs := Set_ok x r.feet.toNat h1 (by omega) (truths_lt hok hx)
      rw [← hsl, ← hok.feet] at hs
      rw [hz] at e1 e2
      simp only [go_sem, Nat.reduceEqDiff, Nat.reduceAdd, Nat.reduceLT, Nat.reduceLeDiff, reduceIte, and_self, decide_true, decide_false, beq_self_eq_true, sn_ms, hot_ms, WB14, WVH_eq hc, true_and, WF16, WVH_eq (CopyV_ok r hn.few), WB33, WVH_eq e1, WB34, WVH_eq e2, sn_nats, hot_nats, show ((0 : Int) != 0) = false from rfl, WB35, WVH_eq hs, WB36, WVH_eq (IsTruth_ok r _ hok x hx), WB15, WVH_eq works_ok]
  · have hz1 : (errT r != 0) = true := by simpa using hz
    have hz2 : (errT r != errT r) = false := by simp
    have hz3 : decide ((0 : Int) < (((showL r).length : Nat) : Int)) = false := decide_eq_false (by rw [showL_bad hz]; simp)
    simp only [go_sem, Nat.reduceEqDiff, Nat.reduceAdd, Nat.reduceLT, Nat.reduceLeDiff, reduceIte, and_self, decide_true, decide_false, beq_self_eq_true, sn_ms, hot_ms, WB14, WVH_eq hc, true_and, WF16, WVH_eq (CopyV_ok r hn.few), WB33, WVH_eq e1, WB34, WVH_eq e2, sn_nats, hot_nats, hz1, hz2, hz3, List.length_map, WB15, WVH_eq works_ok]
theorem ReelSpans_run (r : Rl) : RV ft 3 [encR r] (.bool true) := by
  refine RV_of ft3 rfl ?_
  simp only [c3, r3]
  cases hr : farR r
  case true => simp only [go_sem, Nat.reduceEqDiff, Nat.reduceAdd, Nat.reduceLT, Nat.reduceLeDiff, reduceIte, and_self, decide_true, decide_false, beq_self_eq_true, sn_ms, hot_ms, WB14, WVH_eq (Far_ok r), true_and, hr, WB15, WVH_eq works_ok]
  have hn := near_of hr
  have hc := Far_ok r
  rw [hr] at hc
  have hfew := hn.few
  have hm : (manyL r != manyL r) = false := by simp
  have hf : (fewL r != fewL r) = false := by simp
  have hk : (checkR r != checkR r) = false := by simp
  have he : (errT r != errT r) = false := by simp
  simp only [go_sem, Nat.reduceEqDiff, Nat.reduceAdd, Nat.reduceLT, Nat.reduceLeDiff, reduceIte, and_self, decide_true, decide_false, beq_self_eq_true, sn_ms, hot_ms, WB14, WVH_eq hc, true_and, WF16, WVH_eq (CopyV_ok r hn.few), WB17, WVH_eq (Many_ok r hn), WB18, WVH_eq (refMany_ok r hn), WB19, WVH_eq (Fewest_ok r hn), WB20, WVH_eq (refFewest_ok r hn), WB21, WVH_eq (Check_ok r hn.few), WB22, WVH_eq (refCheck_ok r hn.few),
    hm, hf, hk, he, WB23, WVH_eq (Left_ok r hn), WB24, WVH_eq (refLeft_ok r hn), WB25, WVH_eq (Splices_ok r hn), WB26, WVH_eq (refSplices_ok r hn), WB27, WVH_eq (Longest_ok r hn), WB28, WVH_eq (refLongest_ok r hn), beq_self_eq_true, Bool.and_self, Bool.not_true, Bool.and_true]
  refine WL_inv (α := Nat × List Mk) (fun a e m => e 1 = .ptr 0 0 0 ∧ e 3 = .ptr 1 0 0 ∧ e 24 = I64 a.1 ∧ r.marks.drop a.1 = a.2 ∧ a.1 ≤ r.marks.length ∧ m.blks[0]? = some (.live [encR r] 2) ∧ m.blks[1]? = some (.live [encR r] 2)) (fun a => r.marks.length - a.1) (0, r.marks) ?_ ?_
  · simp only [go_sem, Nat.reduceEqDiff, Nat.reduceAdd, Nat.reduceLT, Nat.reduceLeDiff, reduceIte, and_self, decide_true, decide_false, beq_self_eq_true]
    exact ⟨trivial, trivial, rfl, trivial, Nat.zero_le _, trivial⟩
  rintro ⟨k, ms⟩ e ⟨blks, toks⟩ ⟨g1, g3, g24, hd, hk, hb0, hb1⟩
  dsimp only at g24 hd hk hb0 hb1
  rcases ms with _ | ⟨x, ms⟩
  · have hk' := drop_nil hd
    simp only [go_sem, Nat.reduceEqDiff, Nat.reduceAdd, Nat.reduceLT, Nat.reduceLeDiff, reduceIte, and_self, decide_true, decide_false, beq_self_eq_true, g1, g3, g24, hb0, hb1, List.length_map, dec_ge hk', WB15, WVH_eq works_ok, true_and]
  · obtain ⟨hg, hd', hlt⟩ := drop_cons hd
    have hw : IntKind.i64.wrap ((k : Int) + 1) = ((k + 1 : Nat) : Int) := by rw [wrap_i64 _ (by omega) (by omega)]; rfl
    simp only [go_sem, Nat.reduceEqDiff, Nat.reduceAdd, Nat.reduceLT, Nat.reduceLeDiff, reduceIte, and_self, decide_true, decide_false, beq_self_eq_true, g1, g3, g24, hb0, hb1, List.length_map, dec_lt hlt, dec_nn, Int.toNat_natCast, List.getElem?_map, hg, Bool.and_self, Bool.not_true, Bool.and_true, hw]
    refine Nx_of (k + 1, ms) (by simp; omega) ?_
    simp only [go_sem, Nat.reduceEqDiff, Nat.reduceAdd, Nat.reduceLT, Nat.reduceLeDiff, reduceIte, and_self, decide_true, decide_false, beq_self_eq_true, g1, g3]
    exact ⟨trivial, trivial, trivial, hd', by omega, hb0, hb1⟩
end Go.Ab.T
end
