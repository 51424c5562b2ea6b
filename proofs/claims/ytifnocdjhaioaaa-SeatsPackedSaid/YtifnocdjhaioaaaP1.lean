/-
  A part of the proofs over this seat.
  (The texts KhM1 KhM2, one behind the other.)
-/
import Derived.Test.YtifnocdjhaioaaaT1
set_option linter.unusedSimpArgs false
set_option linter.unusedVariables false
set_option linter.unusedSectionVars false
section
namespace Go.Ab.T
/-! ### Rows that are filled one after the other -/
def nxF (R : Nat) (z : Int) : List Int → Nat → Nat × Int
  | [], _ => (R, 0)
  | x :: r, k => if z ≤ x then (k, z) else nxF R z r (k + 1)
def addF (rows : List Int) (f : Nat × Int) (z : Int) : Nat × Int :=
  if f.1 < rows.length ∧ f.2 + z ≤ rows.getD f.1 0 then (f.1, f.2 + z) else nxF rows.length z (rows.drop (f.1 + 1)) (f.1 + 1)
def ltF (a b : Nat × Int) : Bool := decide (a.1 < b.1 ∨ (a.1 = b.1 ∧ a.2 < b.2))
def leF (a b : Nat × Int) : Prop := a.1 < b.1 ∨ (a.1 = b.1 ∧ a.2 ≤ b.2)
theorem leF.refl (a : Nat × Int) : leF a a := .inr ⟨rfl, Int.le_refl _⟩
theorem leF.trans {a b c : Nat × Int} (h : leF a b) (h' : leF b c) : leF a c := by unfold leF at *; omega
theorem ltF_le {a b : Nat × Int} (h : ltF a b = true) : leF a b := by have := of_decide_eq_true h; unfold leF; omega
theorem ltF_not {a b : Nat × Int} (h : ltF a b = false) : leF b a := by have := of_decide_eq_false h; unfold leF; omega
theorem nxF_spec (rows : List Int) (z : Int) : ∀ (l : List Int) (k : Nat), rows.drop k = l →
    (∃ j, k ≤ j ∧ j < rows.length ∧ nxF rows.length z l k = (j, z) ∧ z ≤ rows.getD j 0 ∧ ∀ i, k ≤ i → i < j → ¬z ≤ rows.getD i 0) ∨
    (nxF rows.length z l k = (rows.length, 0) ∧ ∀ i, k ≤ i → i < rows.length → ¬z ≤ rows.getD i 0)
  | [], k, h => by
    have := List.drop_eq_nil_iff.1 h
    exact .inr ⟨rfl, fun i h1 h2 => by omega⟩
  | x :: r, k, h => by
    have hk : k < rows.length := by
      rcases Nat.lt_or_ge k rows.length with hk | hk
      · exact hk
      · rw [List.drop_eq_nil_iff.2 hk] at h; cases h
    rw [List.drop_eq_getElem_cons hk] at h
    obtain ⟨h1, h2⟩ := List.cons.inj h
    have hg : rows.getD k 0 = x := by rw [List.getD_eq_getElem?_getD, List.getElem?_eq_getElem hk]; exact h1
    unfold nxF
    by_cases hx : z ≤ x
    · rw [if_pos hx]
      exact .inl ⟨k, Nat.le_refl _, hk, rfl, by rw [hg]; exact hx, fun i h1 h2 => by omega⟩
    · rw [if_neg hx]
      have he : ∀ i, k ≤ i → ¬z ≤ rows.getD i 0 ∨ k + 1 ≤ i := fun i hi => by
        rcases Nat.eq_or_lt_of_le hi with rfl | hi
        · exact .inl (by rw [hg]; exact hx)
        · exact .inr hi
      rcases nxF_spec rows z r (k + 1) h2 with ⟨j, a1, a2, a3, a4, a5⟩ | ⟨a1, a2⟩
      · exact .inl ⟨j, by omega, a2, a3, a4, fun i h1 h2 => (he i h1).elim id fun h => a5 i h h2⟩
      · exact .inr ⟨a1, fun i h1 h2 => (he i h1).elim id fun h => a2 i h h2⟩
theorem addF_spec (rows : List Int) (f : Nat × Int) (z : Int) :
    (f.1 < rows.length ∧ f.2 + z ≤ rows.getD f.1 0 ∧ addF rows f z = (f.1, f.2 + z)) ∨
    (¬(f.1 < rows.length ∧ f.2 + z ≤ rows.getD f.1 0) ∧ ((∃ j, f.1 + 1 ≤ j ∧ j < rows.length ∧ addF rows f z = (j, z) ∧ z ≤ rows.getD j 0 ∧ ∀ i, f.1 + 1 ≤ i → i < j → ¬z ≤ rows.getD i 0) ∨
      (addF rows f z = (rows.length, 0) ∧ ∀ i, f.1 + 1 ≤ i → i < rows.length → ¬z ≤ rows.getD i 0))) := by
  unfold addF
  by_cases h : f.1 < rows.length ∧ f.2 + z ≤ rows.getD f.1 0
  · rw [if_pos h]; exact .inl ⟨h.1, h.2, rfl⟩
  · rw [if_neg h]; exact .inr ⟨h, nxF_spec rows z _ _ rfl⟩
theorem addF_mono (rows : List Int) {f g : Nat × Int} {z : Int} (hfg : leF f g) (hg : 0 ≤ g.2) (hr : g.1 ≤ rows.length) : leF (addF rows f z) (addF rows g z) := by
  obtain ⟨a, s⟩ := f
  obtain ⟨b, t⟩ := g
  unfold leF at hfg
  dsimp only at hfg hg hr
  rcases addF_spec rows (a, s) z with ⟨a1, a2, a3⟩ | ⟨a0, ⟨j, a1, a2, a3, a4, a5⟩ | ⟨a3, a5⟩⟩ <;>
    rcases addF_spec rows (b, t) z with ⟨b1, b2, b3⟩ | ⟨b0, ⟨j', b1, b2, b3, b4, b5⟩ | ⟨b3, b5⟩⟩ <;> rw [a3, b3] <;> unfold leF <;> dsimp only at *
  · omega
  · omega
  · omega
  · rcases hfg with h | ⟨rfl, h⟩
    · rcases Nat.lt_or_ge b j with hj | hj
      · exact absurd (show z ≤ rows.getD b 0 by omega) (a5 b (by omega) hj)
      · omega
    · exact absurd ⟨b1, by omega⟩ a0
  · rcases Nat.lt_or_ge j' j with hj | hj
    · exact absurd b4 (a5 j' (by omega) hj)
    · omega
  · omega
  · rcases hfg with h | ⟨rfl, h⟩
    · exact absurd (show z ≤ rows.getD b 0 by omega) (a5 b (by omega) b1)
    · exact absurd ⟨b1, by omega⟩ a0
  · exact absurd b4 (a5 j' (by omega) b2)
  · exact .inr ⟨rfl, Int.le_refl _⟩
/-! ### Sets of groups -/
abbrev Pk := (Nat × Int) × Nat
def cellF (rows : List Int) (T : Nat → Pk) (S : Nat) : List Int → Nat → Pk → Pk
  | [], _, cur => cur
  | z :: r, k, cur => cellF rows T S r (k + 1) (if S.testBit k = true then (if ltF (addF rows (T (S - 2 ^ k)).1 z) cur.1 = true then (addF rows (T (S - 2 ^ k)).1 z, k) else cur) else cur)
def p0 : Pk := ((0, 0), 0)
def tabF (rows zs : List Int) : Nat → List Pk
  | 0 => [p0]
  | s + 1 => tabF rows zs s ++ [cellF rows (fun i => (tabF rows zs s).getD i p0) (s + 1) zs 0 ((rows.length, 0), 0)]
theorem tab_len (rows zs : List Int) : ∀ s, (tabF rows zs s).length = s + 1
  | 0 => rfl
  | s + 1 => by rw [tabF, List.length_append, tab_len rows zs s]; rfl
def bst (rows zs : List Int) (s : Nat) : Pk := (tabF rows zs s).getD s p0
theorem tab_get (rows zs : List Int) {i : Nat} : ∀ {s : Nat}, i ≤ s → (tabF rows zs s).getD i p0 = bst rows zs i
  | 0, h => by obtain rfl : i = 0 := by omega
               rfl
  | s + 1, h => by
    rcases Nat.eq_or_lt_of_le h with rfl | h
    · rfl
    · rw [tabF, List.getD_eq_getElem?_getD, List.getElem?_append_left (by rw [tab_len]; omega), ← List.getD_eq_getElem?_getD, tab_get rows zs (by omega)]
theorem tab_eq (rows zs : List Int) (s : Nat) : tabF rows zs s = (List.range (s + 1)).map (bst rows zs) := by
  apply List.ext_getElem
  · rw [tab_len]; simp
  intro i h1 h2
  rw [tab_len] at h1
  have := tab_get rows zs (i := i) (s := s) (by omega)
  rw [List.getD_eq_getElem?_getD, List.getElem?_eq_getElem (by rw [tab_len]; omega)] at this
  simp only [Option.getD_some] at this
  rw [this]; simp
theorem testBit_le {S k : Nat} (h : S.testBit k = true) : 2 ^ k ≤ S := Nat.ge_two_pow_of_testBit h
theorem cell_congr (rows : List Int) {T T' : Nat → Pk} {S : Nat} (h : ∀ i, i < S → T i = T' i) : ∀ (l : List Int) (k : Nat) (cur : Pk), cellF rows T S l k cur = cellF rows T' S l k cur
  | [], _, _ => rfl
  | z :: r, k, cur => by
    unfold cellF
    cases hb : S.testBit k
    · simp only [Bool.false_eq_true, if_false]; exact cell_congr rows h r _ _
    · have := testBit_le hb
      have h2 : 0 < 2 ^ k := Nat.two_pow_pos k
      rw [h (S - 2 ^ k) (by omega)]
      exact cell_congr rows h r _ _
theorem bst_succ (rows zs : List Int) (s : Nat) : bst rows zs (s + 1) = cellF rows (bst rows zs) (s + 1) zs 0 ((rows.length, 0), 0) := by
  rw [bst, tabF, List.getD_eq_getElem?_getD, List.getElem?_append_right (by rw [tab_len]; omega), tab_len, Nat.sub_self]
  simp only [List.getElem?_cons_zero, Option.getD_some]
  exact cell_congr rows (fun i hi => tab_get rows zs (by omega)) _ _ _
theorem cell_le (rows : List Int) (T : Nat → Pk) (S : Nat) : ∀ (l : List Int) (k : Nat) (cur : Pk), leF (cellF rows T S l k cur).1 cur.1 ∧
    ∀ n z, l[n]? = some z → S.testBit (k + n) = true → leF (cellF rows T S l k cur).1 (addF rows (T (S - 2 ^ (k + n))).1 z)
  | [], _, cur => ⟨leF.refl _, fun n z h => by simp at h⟩
  | z :: r, k, cur => by
    unfold cellF
    generalize hc : (if S.testBit k = true then (if ltF (addF rows (T (S - 2 ^ k)).1 z) cur.1 = true then (addF rows (T (S - 2 ^ k)).1 z, k) else cur) else cur) = c
    have hcc : leF c.1 cur.1 ∧ (S.testBit k = true → leF c.1 (addF rows (T (S - 2 ^ k)).1 z)) := by
      subst hc
      cases hb : S.testBit k
      · simp only [Bool.false_eq_true, if_false]; exact ⟨leF.refl _, fun h => by cases h⟩
      · simp only [if_true]
        cases hl : ltF (addF rows (T (S - 2 ^ k)).1 z) cur.1
        · simp only [Bool.false_eq_true, if_false]; exact ⟨leF.refl _, fun _ => ltF_not hl⟩
        · simp only [if_true]; exact ⟨ltF_le hl, fun _ => leF.refl _⟩
    obtain ⟨h1, h2⟩ := cell_le rows T S r (k + 1) c
    refine ⟨h1.trans hcc.1, fun n y hn hb => ?_⟩
    cases n with
    | zero =>
      simp only [List.getElem?_cons_zero, Option.some.injEq] at hn
      subst hn
      exact h1.trans (hcc.2 hb)
    | succ n =>
      rw [List.getElem?_cons_succ] at hn
      have := h2 n y hn (by rw [show k + 1 + n = k + (n + 1) by omega]; exact hb)
      rwa [show k + 1 + n = k + (n + 1) by omega] at this
theorem cell_src (rows : List Int) (T : Nat → Pk) (S : Nat) : ∀ (l : List Int) (k : Nat) (cur : Pk), cellF rows T S l k cur = cur ∨
    ∃ n z, l[n]? = some z ∧ S.testBit (k + n) = true ∧ cellF rows T S l k cur = (addF rows (T (S - 2 ^ (k + n))).1 z, k + n)
  | [], _, cur => .inl rfl
  | z :: r, k, cur => by
    unfold cellF
    generalize hc : (if S.testBit k = true then (if ltF (addF rows (T (S - 2 ^ k)).1 z) cur.1 = true then (addF rows (T (S - 2 ^ k)).1 z, k) else cur) else cur) = c
    rcases cell_src rows T S r (k + 1) c with h | ⟨n, y, h1, h2, h3⟩
    · rw [h]
      subst hc
      cases hb : S.testBit k
      · simp only [Bool.false_eq_true, if_false]; exact .inl trivial
      · simp only [if_true]
        cases hl : ltF (addF rows (T (S - 2 ^ k)).1 z) cur.1
        · simp only [Bool.false_eq_true, if_false]; exact .inl trivial
        · simp only [if_true]; exact .inr ⟨0, z, rfl, hb, rfl⟩
    · exact .inr ⟨n + 1, y, by simpa using h1, by rw [show k + (n + 1) = k + 1 + n by omega]; exact h2, by rw [show k + (n + 1) = k + 1 + n by omega]; exact h3⟩
/-! ### Loads of rows -/
def ldS (a : Nat → Nat) (S m : Nat) : List Int → Nat → Int
  | [], _ => 0
  | z :: r, k => (if S.testBit k = true ∧ a k = m then z else 0) + ldS a S m r (k + 1)
def ldA (a : Nat → Nat) (m : Nat) : List Int → Nat → Int
  | [], _ => 0
  | z :: r, k => (if a k = m then z else 0) + ldA a m r (k + 1)
theorem ldS_nn {a : Nat → Nat} {S m : Nat} : ∀ {l : List Int} (_ : ∀ z ∈ l, 0 ≤ z) (k : Nat), 0 ≤ ldS a S m l k
  | [], _, _ => Int.le_refl _
  | z :: r, h, k => by
    have := ldS_nn (a := a) (S := S) (m := m) (fun y hy => h y (List.mem_cons_of_mem _ hy)) (k + 1)
    have := h z (by simp)
    unfold ldS; split <;> omega
theorem ldS_le {a : Nat → Nat} {S m : Nat} : ∀ {l : List Int} (_ : ∀ z ∈ l, 0 ≤ z) (k : Nat), ldS a S m l k ≤ ldA a m l k
  | [], _, _ => Int.le_refl _
  | z :: r, h, k => by
    have := ldS_le (a := a) (S := S) (m := m) (fun y hy => h y (List.mem_cons_of_mem _ hy)) (k + 1)
    have := h z (by simp)
    unfold ldS ldA; split <;> split <;> first | omega | (exfalso; simp_all)
theorem ldS_full {a : Nat → Nat} {S m : Nat} : ∀ {l : List Int} {k : Nat} (_ : ∀ i, i < l.length → S.testBit (k + i) = true), ldS a S m l k = ldA a m l k
  | [], _, _ => rfl
  | z :: r, k, h => by
    unfold ldS ldA
    rw [ldS_full (l := r) (k := k + 1) fun i hi => by rw [show k + 1 + i = k + (i + 1) by omega]; exact h (i + 1) (by simpa using hi)]
    have := h 0 (by simp)
    simp only [Nat.add_zero] at this
    simp [this]
theorem ldS_zero {a : Nat → Nat} {m : Nat} : ∀ (l : List Int) (k : Nat), ldS a 0 m l k = 0
  | [], _ => rfl
  | z :: r, k => by unfold ldS; rw [ldS_zero r]; simp
theorem ldS_same {a a' : Nat → Nat} {S S' m : Nat} : ∀ {l : List Int} {k : Nat} (_ : ∀ i, i < l.length → S.testBit (k + i) = S'.testBit (k + i) ∧ (S.testBit (k + i) = true → a (k + i) = a' (k + i))), ldS a S m l k = ldS a' S' m l k
  | [], _, _ => rfl
  | z :: r, k, h => by
    unfold ldS
    rw [ldS_same (l := r) (k := k + 1) (a' := a') (S' := S') fun i hi => by rw [show k + 1 + i = k + (i + 1) by omega]; exact h (i + 1) (by simpa using hi)]
    obtain ⟨h1, h2⟩ := h 0 (by simp)
    simp only [Nat.add_zero] at h1 h2
    cases hb : S.testBit k
    · rw [hb] at h1; simp [← h1]
    · rw [hb] at h1; rw [h2 hb]; simp [← h1]
/-- One group less. -/
theorem ldS_clr {a : Nat → Nat} {S S' m : Nat} {z : Int} : ∀ {l : List Int} {k n : Nat} (_ : l[n]? = some z) (_ : S.testBit (k + n) = true) (_ : ∀ i, i < l.length → S'.testBit (k + i) = (S.testBit (k + i) && decide (i ≠ n))),
    ldS a S m l k = ldS a S' m l k + (if a (k + n) = m then z else 0)
  | [], _, _, h, _, _ => by simp at h
  | y :: r, k, n, hn, hb, hc => by
    unfold ldS
    cases n with
    | zero =>
      simp only [List.getElem?_cons_zero, Option.some.injEq] at hn
      subst hn
      have h0 := hc 0 (by simp)
      simp only [Nat.add_zero] at h0 hb ⊢
      rw [ldS_same (a' := a) (S := S') (S' := S) (l := r) (k := k + 1) fun i hi => ⟨by
        have := hc (i + 1) (by simpa using hi)
        rw [show k + 1 + i = k + (i + 1) by omega, this]; simp, fun _ => rfl⟩]
      simp [hb, h0]
      omega
    | succ n =>
      rw [List.getElem?_cons_succ] at hn
      have h0 := hc 0 (by simp)
      simp only [Nat.add_zero] at h0
      rw [ldS_clr (l := r) (k := k + 1) (n := n) (S' := S') hn (by rw [show k + 1 + n = k + (n + 1) by omega]; exact hb) fun i hi => by
        have := hc (i + 1) (by simpa using hi)
        rw [show k + 1 + i = k + (i + 1) by omega, this]; simp]
      rw [show k + 1 + n = k + (n + 1) by omega]
      simp [h0]
      omega
theorem clr_bits : ∀ (S : _root_.Fin 128) (k i : _root_.Fin 7), S.val.testBit k.val = true → (S.val - 2 ^ k.val).testBit i.val = (S.val.testBit i.val && decide (i.val ≠ k.val)) := by decide +kernel
theorem some_bit : ∀ (S : _root_.Fin 128), S.val ≠ 0 → ∃ k : _root_.Fin 7, S.val.testBit k.val = true := by decide +kernel
theorem full_bits : ∀ (L : _root_.Fin 8) (i : _root_.Fin 7), (2 ^ L.val - 1).testBit i.val = decide (i.val < L.val) := by decide +kernel
theorem lt_bits : ∀ (L : _root_.Fin 8) (S : _root_.Fin 128) (i : _root_.Fin 7), S.val < 2 ^ L.val → S.val.testBit i.val = true → i.val < L.val := by decide +kernel
theorem clr_bit {S k i : Nat} (hS : S < 128) (hk : k < 7) (hi : i < 7) (h : S.testBit k = true) : (S - 2 ^ k).testBit i = (S.testBit i && decide (i ≠ k)) := clr_bits ⟨S, hS⟩ ⟨k, hk⟩ ⟨i, hi⟩ h
theorem ex_bit {S L : Nat} (hL : L ≤ 7) (hS : S < 2 ^ L) (h0 : S ≠ 0) : ∃ k, k < L ∧ S.testBit k = true := by
  have h7 : 2 ^ L ≤ 2 ^ 7 := Nat.pow_le_pow_right (by decide) hL
  have h8 : (2 : Nat) ^ 7 = 128 := rfl
  obtain ⟨k, hk⟩ := some_bit ⟨S, by omega⟩ h0
  exact ⟨k.val, lt_bits ⟨L, by omega⟩ ⟨S, by omega⟩ k hS hk, hk⟩
/-! ### What is found is the least -/
theorem bst_pos {rows zs : List Int} {S : Nat} (h : S ≠ 0) : bst rows zs S = cellF rows (bst rows zs) S zs 0 ((rows.length, 0), 0) := by
  obtain ⟨s, rfl⟩ := Nat.exists_eq_succ_of_ne_zero h
  exact bst_succ rows zs s
theorem pow7 {L : Nat} (hL : L ≤ 7) : 2 ^ L ≤ 128 := Nat.pow_le_pow_right (n := 2) (by decide) hL
theorem bst_least {rows zs : List Int} (hz : ∀ z ∈ zs, 0 ≤ z) (hL : zs.length ≤ 7) {a : Nat → Nat} (ha : ∀ m, m < rows.length → ldA a m zs 0 ≤ rows.getD m 0) :
    ∀ (S : Nat), S < 2 ^ zs.length → ∀ m, m < rows.length → (∀ n, n < zs.length → S.testBit n = true → a n ≤ m) → leF (bst rows zs S).1 (m, ldS a S m zs 0) := by
  intro S
  induction S using Nat.strongRecOn with
  | _ S ih =>
    intro hS m
    have h7 := pow7 hL
    induction m with
    | zero =>
      intro hm hn
      by_cases h0 : S = 0
      · subst h0
        exact .inr ⟨rfl, ldS_nn hz 0⟩
      · obtain ⟨n, hnL, hb⟩ := ex_bit hL hS h0
        have hz0 := hn n hnL hb
        exact bst_least_step hz hL ha ih hS h0 hm hnL hb (by omega) hn
    | succ m ihm =>
      intro hm hn
      by_cases h0 : S = 0
      · subst h0
        exact .inl (Nat.succ_pos _)
      by_cases hx : ∃ n, n < zs.length ∧ S.testBit n = true ∧ a n = m + 1
      · obtain ⟨n, hnL, hb, hq⟩ := hx
        exact bst_least_step hz hL ha ih hS h0 hm hnL hb hq hn
      · have := ihm (by omega) fun n h1 h2 => by
          have := hn n h1 h2
          rcases Nat.eq_or_lt_of_le this with h | h
          · exact absurd ⟨n, h1, h2, h⟩ hx
          · omega
        unfold leF at this ⊢
        dsimp only at this ⊢
        omega
where
  bst_least_step {rows zs : List Int} (hz : ∀ z ∈ zs, 0 ≤ z) (hL : zs.length ≤ 7) {a : Nat → Nat} (ha : ∀ m, m < rows.length → ldA a m zs 0 ≤ rows.getD m 0) {S : Nat}
      (ih : ∀ S', S' < S → S' < 2 ^ zs.length → ∀ m, m < rows.length → (∀ n, n < zs.length → S'.testBit n = true → a n ≤ m) → leF (bst rows zs S').1 (m, ldS a S' m zs 0))
      (hS : S < 2 ^ zs.length) (h0 : S ≠ 0) {m n : Nat} (hm : m < rows.length) (hnL : n < zs.length) (hb : S.testBit n = true) (hq : a n = m) (hn : ∀ n, n < zs.length → S.testBit n = true → a n ≤ m) :
      leF (bst rows zs S).1 (m, ldS a S m zs 0) := by
    have h7 := pow7 hL
    have hp := testBit_le hb
    have hpp : 0 < 2 ^ n := Nat.two_pow_pos n
    have hzn : zs[n]? = some zs[n] := List.getElem?_eq_getElem hnL
    have hbits : ∀ i, i < zs.length → (S - 2 ^ n).testBit i = (S.testBit i && decide (i ≠ n)) := fun i hi => clr_bit (by omega) (by omega) (by omega) hb
    have h1 := ih (S - 2 ^ n) (by omega) (by omega) m hm fun i h1 h2 => hn i h1 (by rw [hbits i h1] at h2; simp at h2; exact h2.1)
    have hc := ldS_clr (a := a) (S := S) (S' := S - 2 ^ n) (m := m) (k := 0) hzn (by simpa using hb) (fun i hi => by simpa using hbits i hi)
    simp only [Nat.zero_add] at hc
    rw [if_pos hq] at hc
    have h2 := addF_mono rows (z := zs[n]) h1 (ldS_nn hz 0) (Nat.le_of_lt hm)
    have h3 := Int.le_trans (ldS_le (a := a) (S := S) (m := m) hz 0) (ha m hm)
    have h4 : addF rows (m, ldS a (S - 2 ^ n) m zs 0) zs[n] = (m, ldS a S m zs 0) := by
      unfold addF
      rw [if_pos ⟨hm, by dsimp only; omega⟩, hc]
    rw [h4] at h2
    rw [bst_pos h0]
    have h5 := (cell_le rows (bst rows zs) S zs 0 ((rows.length, 0), 0)).2 n zs[n] hzn (by simpa using hb)
    simp only [Nat.zero_add] at h5
    exact h5.trans h2
/-! ### What is taken apart fits -/
def unF (rows zs : List Int) : Nat → Nat → List Nat → List Nat
  | 0, _, acc => acc
  | n + 1, S, acc => if S = 0 then acc else unF rows zs n (S - 2 ^ (bst rows zs S).2) (acc.set (bst rows zs S).2 (bst rows zs S).1.1)
theorem bst_last {rows zs : List Int} {S : Nat} (h0 : S ≠ 0) (hr : (bst rows zs S).1.1 < rows.length) : ∃ z, zs[(bst rows zs S).2]? = some z ∧ S.testBit (bst rows zs S).2 = true ∧
    (bst rows zs S).1 = addF rows (bst rows zs (S - 2 ^ (bst rows zs S).2)).1 z := by
  have hb := bst_pos (rows := rows) (zs := zs) h0
  rcases cell_src rows (bst rows zs) S zs 0 ((rows.length, 0), 0) with h | ⟨n, z, h1, h2, h3⟩
  · rw [hb, h] at hr; exact absurd hr (Nat.lt_irrefl _)
  · simp only [Nat.zero_add] at h2 h3
    rw [← hb] at h3
    refine ⟨z, ?_, ?_, ?_⟩
    · rw [h3]; exact h1
    · rw [h3]; exact h2
    · rw [h3]
theorem getD_set' {l : List Nat} {i j : Nat} {x : Nat} (hi : i < l.length) : (l.set i x).getD j 0 = if i = j then x else l.getD j 0 := by
  rw [List.getD_eq_getElem?_getD, List.getElem?_set]
  by_cases h : i = j
  · subst h; simp [hi]
  · simp [h]
theorem un_ok {rows zs : List Int} (hz : ∀ z ∈ zs, 0 ≤ z) (hL : zs.length ≤ 7) (hr0 : 0 ≤ rows.getD 0 0) : ∀ (n S : Nat) (acc : List Nat), S ≤ n → S < 2 ^ zs.length → (bst rows zs S).1.1 < rows.length → acc.length = zs.length →
    (unF rows zs n S acc).length = zs.length ∧ (∀ i, i < zs.length → S.testBit i = false → (unF rows zs n S acc).getD i 0 = acc.getD i 0) ∧ (∀ i, i < zs.length → S.testBit i = true → (unF rows zs n S acc).getD i 0 < rows.length) ∧
    0 ≤ (bst rows zs S).1.2 ∧ (bst rows zs S).1.2 ≤ rows.getD (bst rows zs S).1.1 0 ∧
    ∀ m, (m < (bst rows zs S).1.1 → ldS (fun i => (unF rows zs n S acc).getD i 0) S m zs 0 ≤ max 0 (rows.getD m 0)) ∧
      (m = (bst rows zs S).1.1 → ldS (fun i => (unF rows zs n S acc).getD i 0) S m zs 0 ≤ (bst rows zs S).1.2) ∧
      ((bst rows zs S).1.1 < m → ldS (fun i => (unF rows zs n S acc).getD i 0) S m zs 0 = 0) := by
  intro n
  induction n with
  | zero =>
    intro S acc hn hS hr hl
    obtain rfl : S = 0 := by omega
    refine ⟨hl, fun _ _ _ => rfl, fun i _ h => by simp at h, Int.le_refl _, hr0, fun m => ⟨fun h => ?_, fun h => ?_, fun h => ldS_zero _ _⟩⟩ <;> rw [ldS_zero]
    · omega
    · exact Int.le_refl _
  | succ n ih =>
    intro S acc hn hS hr hl
    unfold unF
    by_cases h0 : S = 0
    · subst h0
      rw [if_pos rfl]
      refine ⟨hl, fun _ _ _ => rfl, fun i _ h => by simp at h, Int.le_refl _, hr0, fun m => ⟨fun h => ?_, fun h => ?_, fun h => ldS_zero _ _⟩⟩ <;> rw [ldS_zero]
      · omega
      · exact Int.le_refl _
    rw [if_neg h0]
    obtain ⟨z, h1, h2, h3⟩ := bst_last h0 hr
    have h7 := pow7 hL
    have hp := testBit_le h2
    have hq := Nat.two_pow_pos (bst rows zs S).2
    generalize (bst rows zs S).2 = k at *
    have hk : k < zs.length := by
      rcases Nat.lt_or_ge k zs.length with h | h
      · exact h
      · rw [List.getElem?_eq_none h] at h1; cases h1
    have hz0 : 0 ≤ z := hz z (List.mem_of_getElem? h1)
    have hbits : ∀ i, i < zs.length → (S - 2 ^ k).testBit i = (S.testBit i && decide (i ≠ k)) := fun i hi => clr_bit (by omega) (by omega) (by omega) h2
    have hkk : (S - 2 ^ k).testBit k = false := by rw [hbits k hk]; simp
    have hle : (bst rows zs (S - 2 ^ k)).1.1 < rows.length := by
      rcases addF_spec rows (bst rows zs (S - 2 ^ k)).1 z with ⟨a1, _⟩ | ⟨_, ⟨j, a1, a2, _⟩ | ⟨a3, _⟩⟩
      · exact a1
      · omega
      · rw [h3, a3] at hr; exact absurd hr (Nat.lt_irrefl _)
    obtain ⟨i1, i2, i3, i4, i5, i6⟩ := ih (S - 2 ^ k) (acc.set k (bst rows zs S).1.1) (by omega) (by omega) hle (by simpa using hl)
    generalize unF rows zs n (S - 2 ^ k) (acc.set k (bst rows zs S).1.1) = res at *
    have hrk : res.getD k 0 = (bst rows zs S).1.1 := by
      rw [i2 k hk hkk, getD_set' (by omega), if_pos rfl]
    have hc := fun m => ldS_clr (a := fun i => res.getD i 0) (S := S) (S' := S - 2 ^ k) (m := m) (k := 0) h1 (by simpa using h2) (fun i hi => by simpa using hbits i hi)
    simp only [Nat.zero_add, hrk] at hc
    refine ⟨i1, fun i hi hb => ?_, fun i hi hb => ?_, ?_⟩
    · have hne : k ≠ i := fun e => by subst e; rw [h2] at hb; cases hb
      rw [i2 i hi (by rw [hbits i hi, hb]; rfl), getD_set' (by omega), if_neg hne]
    · by_cases hne : i = k
      · subst hne; rw [hrk]; exact hr
      · exact i3 i hi (by rw [hbits i hi, hb]; simp [hne])
    generalize bst rows zs (S - 2 ^ k) = q at *
    generalize bst rows zs S = p at *
    obtain ⟨⟨r', s'⟩, _⟩ := q
    obtain ⟨⟨r, s⟩, _⟩ := p
    dsimp only at *
    rcases addF_spec rows (r', s') z with ⟨a1, a2, a3⟩ | ⟨a0, ⟨j, a1, a2, a3, a4, a5⟩ | ⟨a3, a5⟩⟩
    · rw [a3] at h3
      obtain ⟨rfl, rfl⟩ := Prod.mk.inj h3
      dsimp only at *
      refine ⟨by omega, a2, fun m => ?_⟩
      obtain ⟨j1, j2, j3⟩ := i6 m
      rw [hc m]
      refine ⟨fun h => ?_, fun h => ?_, fun h => ?_⟩
      · rw [if_neg (by omega)]; have := j1 h; omega
      · rw [if_pos h.symm]; have := j2 h; omega
      · rw [if_neg (by omega)]; have := j3 h; omega
    · rw [a3] at h3
      obtain ⟨rfl, rfl⟩ := Prod.mk.inj h3
      dsimp only at *
      refine ⟨hz0, a4, fun m => ?_⟩
      obtain ⟨j1, j2, j3⟩ := i6 m
      rw [hc m]
      refine ⟨fun h => ?_, fun h => ?_, fun h => ?_⟩
      · rw [if_neg (by omega)]
        rcases Nat.lt_trichotomy m r' with g | g | g
        · have := j1 g; omega
        · have := j2 g; subst g; omega
        · have := j3 g; omega
      · rw [if_pos h.symm]; have := j3 (by omega); omega
      · rw [if_neg (by omega)]; have := j3 (by omega); omega
    · rw [a3] at h3
      obtain ⟨rfl, rfl⟩ := Prod.mk.inj h3
      exact absurd hr (Nat.lt_irrefl _)
end Go.Ab.T
end

section
namespace Go.Ab.T
/-! ### What is left of rows when groups sit down one after the other -/
def pkF : List Int → List Int → List Int → Bool
  | left, z :: zs, r :: rs => if 0 ≤ r ∧ r ≤ (left.length : Int) - 1 then (if left.getD r.toNat 0 - z < 0 then false else pkF (left.set r.toNat (left.getD r.toNat 0 - z)) zs rs) else false
  | _, zs, rs => decide (rs.length = zs.length)
theorem pkF_nil (left rs : List Int) : pkF left [] rs = decide (rs.length = 0) := by cases rs <;> rfl
theorem pkF_nil' (left zs : List Int) : pkF left zs [] = decide (0 = zs.length) := by cases zs <;> rfl
theorem pkF_cons (left : List Int) (z : Int) (zs : List Int) (r : Int) (rs : List Int) : pkF left (z :: zs) (r :: rs) = if 0 ≤ r ∧ r ≤ (left.length : Int) - 1 then (if left.getD r.toNat 0 - z < 0 then false else pkF (left.set r.toNat (left.getD r.toNat 0 - z)) zs rs) else false := rfl
theorem getD_setI {l : List Int} {i j : Nat} {x : Int} (hi : i < l.length) : (l.set i x).getD j 0 = if i = j then x else l.getD j 0 := by
  rw [List.getD_eq_getElem?_getD, List.getElem?_set]
  by_cases h : i = j
  · subst h; simp [hi]
  · simp [h]
theorem ldA_shift (a : Nat → Nat) (m : Nat) : ∀ (l : List Int) (k : Nat), ldA a m l (k + 1) = ldA (fun i => a (i + 1)) m l k
  | [], _ => rfl
  | z :: r, k => by unfold ldA; rw [ldA_shift a m r (k + 1)]
theorem ldA_congr {a b : Nat → Nat} (m : Nat) : ∀ {l : List Int} {k : Nat} (_ : ∀ i, i < l.length → a (k + i) = b (k + i)), ldA a m l k = ldA b m l k
  | [], _, _ => rfl
  | z :: r, k, h => by
    unfold ldA
    rw [ldA_congr (b := b) m (l := r) (k := k + 1) fun i hi => by rw [show k + 1 + i = k + (i + 1) by omega]; exact h (i + 1) (by simpa using hi)]
    have := h 0 (by simp)
    simp only [Nat.add_zero] at this
    rw [this]
theorem ldA_nn {a : Nat → Nat} {m : Nat} : ∀ {l : List Int} (_ : ∀ z ∈ l, 0 ≤ z) (k : Nat), 0 ≤ ldA a m l k
  | [], _, _ => Int.le_refl _
  | z :: r, h, k => by
    have := ldA_nn (a := a) (m := m) (fun y hy => h y (List.mem_cons_of_mem _ hy)) (k + 1)
    have := h z (by simp)
    unfold ldA; split <;> omega
def rwA (rs : List Int) : Nat → Nat := fun i => (rs.getD i 0).toNat
/-- The groups fit just if no row is too small for those that sit in it. -/
theorem pk_loads : ∀ (zs rs left : List Int) (_ : ∀ z ∈ zs, 0 ≤ z) (_ : ∀ x ∈ left, 0 ≤ x), pkF left zs rs = true ↔ rs.length = zs.length ∧ (∀ r ∈ rs, 0 ≤ r ∧ r < left.length) ∧ ∀ m, m < left.length → ldA (rwA rs) m zs 0 ≤ left.getD m 0
  | [], rs, left, _, hl => by
    rw [pkF_nil, decide_eq_true_eq]
    constructor
    · intro h
      obtain rfl := List.eq_nil_of_length_eq_zero h
      refine ⟨rfl, fun r h => by simp at h, fun m hm => ?_⟩
      rw [List.getD_eq_getElem?_getD, List.getElem?_eq_getElem hm]
      exact hl _ (List.getElem_mem hm)
    · exact fun h => h.1
  | z :: zs, [], left, _, _ => by
    rw [pkF_nil']; simp
  | z :: zs, r :: rs, left, hz, hl => by
    rw [pkF_cons]
    have hz0 := hz z (by simp)
    have hzs : ∀ y ∈ zs, 0 ≤ y := fun y hy => hz y (List.mem_cons_of_mem _ hy)
    have hld : ∀ m, ldA (rwA (r :: rs)) m (z :: zs) 0 = (if r.toNat = m then z else 0) + ldA (rwA rs) m zs 0 := fun m => by
      rw [ldA, ldA_shift]; rfl
    by_cases hr : 0 ≤ r ∧ r ≤ (left.length : Int) - 1
    · rw [if_pos hr]
      have hrl : r.toNat < left.length := by omega
      by_cases hx : left.getD r.toNat 0 - z < 0
      · rw [if_pos hx]
        refine ⟨fun h => (by simp at h), fun ⟨_, _, h⟩ => ?_⟩
        have h1 := h r.toNat hrl
        rw [hld, if_pos rfl] at h1
        have := ldA_nn (a := rwA rs) (m := r.toNat) hzs 0
        omega
      · rw [if_neg hx]
        have hg : ∀ m, (left.set r.toNat (left.getD r.toNat 0 - z)).getD m 0 = if r.toNat = m then left.getD r.toNat 0 - z else left.getD m 0 := fun m => getD_setI hrl
        rw [pk_loads zs rs (left.set r.toNat (left.getD r.toNat 0 - z)) hzs fun x hx' => by
          rcases List.mem_or_eq_of_mem_set hx' with h | h
          · exact hl x h
          · omega]
        rw [List.length_set]
        constructor
        · rintro ⟨h1, h2, h3⟩
          refine ⟨by simp [h1], fun y hy => ?_, fun m hm => ?_⟩
          · rcases List.mem_cons.1 hy with rfl | hy
            · omega
            · exact h2 y hy
          · have := h3 m hm
            rw [hg] at this
            rw [hld]
            by_cases he : r.toNat = m
            · rw [if_pos he] at this ⊢; rw [← he] at this ⊢; omega
            · rw [if_neg he] at this ⊢; omega
        · rintro ⟨h1, h2, h3⟩
          refine ⟨by simpa using h1, fun y hy => h2 y (List.mem_cons_of_mem _ hy), fun m hm => ?_⟩
          have := h3 m hm
          rw [hld] at this
          rw [hg]
          by_cases he : r.toNat = m
          · rw [if_pos he] at this ⊢; rw [← he] at this ⊢; omega
          · rw [if_neg he] at this ⊢; omega
    · rw [if_neg hr]
      refine ⟨fun h => (by simp at h), fun ⟨_, h, _⟩ => ?_⟩
      have := h r (by simp)
      omega
/-! ### Whether there are rows -/
def canF : List Int → List Int → Bool
  | [], _ => true
  | z :: zs, left => (List.range left.length).any fun r => decide (z ≤ left.getD r 0) && canF zs (left.set r (left.getD r 0 - z))
def canC : List Int → List Int → Bool
  | [], _ => true
  | z :: zs, left => (List.range left.length).any fun r => (decide (z ≤ left.getD r 0) && !((left.take r).any (· == left.getD r 0))) && canC zs (left.set r (left.getD r 0 - z))
theorem getD_lt {l : List Int} {r : Nat} (h : r < l.length) : l.getD r 0 = l[r] := by rw [List.getD_eq_getElem?_getD, List.getElem?_eq_getElem h]; rfl
theorem erase_perm : ∀ {l : List Int} {r : Nat} (h : r < l.length), (l[r] :: l.eraseIdx r).Perm l
  | [], _, h => by simp at h
  | x :: l, 0, _ => List.Perm.refl _
  | x :: l, r + 1, h => (List.Perm.swap _ _ _).trans ((erase_perm (l := l) (r := r) (by simpa using h)).cons x)
theorem perm_idx {l : List Int} {r : Nat} (h : r < l.length) : l.Perm (l.getD r 0 :: l.eraseIdx r) := by
  rw [getD_lt h]; exact (erase_perm h).symm
theorem perm_set {l : List Int} {r : Nat} (h : r < l.length) (x : Int) : (l.set r x).Perm (x :: l.eraseIdx r) := by
  have h1 := perm_idx (l := l.set r x) (r := r) (by simpa using h)
  rw [getD_setI h, if_pos rfl] at h1
  have h2 : (l.set r x).eraseIdx r = l.eraseIdx r := by
    rw [List.eraseIdx_eq_take_drop_succ, List.eraseIdx_eq_take_drop_succ, List.take_set_of_le (Nat.le_refl _), List.drop_set_of_lt (Nat.lt_succ_self _)]
  rwa [h2] at h1
theorem set_perm {l l' : List Int} (hp : l.Perm l') {r r' : Nat} (h : r < l.length) (h' : r' < l'.length) (he : l.getD r 0 = l'.getD r' 0) (x : Int) : (l.set r x).Perm (l'.set r' x) := by
  have h1 := (perm_idx h).symm.trans (hp.trans (perm_idx h'))
  rw [he] at h1
  exact (perm_set h x).trans ((h1.cons_inv.cons x).trans (perm_set h' x).symm)
theorem canF_perm : ∀ (zs : List Int) {l l' : List Int} (_ : l.Perm l'), canF zs l = true → canF zs l' = true
  | [], _, _, _, _ => rfl
  | z :: zs, l, l', hp, h => by
    unfold canF at h ⊢
    rw [List.any_eq_true] at h ⊢
    obtain ⟨r, hr, h⟩ := h
    rw [List.mem_range] at hr
    rw [Bool.and_eq_true, decide_eq_true_eq] at h
    have hm : l.getD r 0 ∈ l' := hp.subset (by rw [getD_lt hr]; exact List.getElem_mem hr)
    obtain ⟨r', hr', he⟩ := List.getElem_of_mem hm
    have he' : l'.getD r' 0 = l.getD r 0 := by rw [getD_lt hr']; exact he
    refine ⟨r', List.mem_range.2 hr', ?_⟩
    rw [Bool.and_eq_true, decide_eq_true_eq, he']
    exact ⟨h.1, canF_perm zs (set_perm hp hr hr' he'.symm _) h.2⟩
theorem canC_eq : ∀ (zs l : List Int), canC zs l = canF zs l
  | [], _ => rfl
  | z :: zs, l => by
    unfold canC canF
    rw [Bool.eq_iff_iff, List.any_eq_true, List.any_eq_true]
    simp only [canC_eq zs, Bool.and_eq_true, decide_eq_true_eq, List.mem_range]
    constructor
    · rintro ⟨r, hr, ⟨h1, h2⟩, h3⟩
      exact ⟨r, hr, h1, h3⟩
    · rintro ⟨r, hr, h1, h3⟩
      have hm : l.getD r 0 ∈ l := by rw [getD_lt hr]; exact List.getElem_mem hr
      have hi := List.idxOf_lt_length_of_mem hm
      have hg : l.getD (l.idxOf (l.getD r 0)) 0 = l.getD r 0 := by rw [getD_lt hi]; exact List.getElem_idxOf hi
      refine ⟨l.idxOf (l.getD r 0), hi, ⟨by rw [hg]; exact h1, ?_⟩, ?_⟩
      · rw [hg, Bool.not_eq_true', List.any_eq_false]
        intro x hx
        obtain ⟨j, hj, rfl⟩ := List.getElem_of_mem hx
        rw [List.length_take] at hj
        rw [List.getElem_take]
        have := List.not_of_lt_findIdx (p := (· == l.getD r 0)) (xs := l) (i := j) (by show j < l.idxOf _; omega)
        simpa using this
      · rw [hg]
        exact canF_perm zs (set_perm (List.Perm.refl _) hr hi hg.symm _) h3
theorem canF_iff : ∀ (zs l : List Int), canF zs l = true ↔ ∃ rs, pkF l zs rs = true
  | [], l => ⟨fun _ => ⟨[], rfl⟩, fun _ => rfl⟩
  | z :: zs, l => by
    unfold canF
    rw [List.any_eq_true]
    simp only [Bool.and_eq_true, decide_eq_true_eq, List.mem_range]
    constructor
    · rintro ⟨r, hr, h1, h2⟩
      obtain ⟨rs, h3⟩ := (canF_iff zs _).1 h2
      refine ⟨(r : Int) :: rs, ?_⟩
      rw [pkF_cons, if_pos (by omega), Int.toNat_natCast, if_neg (by omega)]
      exact h3
    · rintro ⟨rs, h⟩
      cases rs with
      | nil => rw [pkF_nil'] at h; simp at h
      | cons r rs =>
        rw [pkF_cons] at h
        by_cases hr : 0 ≤ r ∧ r ≤ (l.length : Int) - 1
        · rw [if_pos hr] at h
          by_cases hx : l.getD r.toNat 0 - z < 0
          · rw [if_pos hx] at h; cases h
          · rw [if_neg hx] at h
            exact ⟨r.toNat, by omega, by omega, (canF_iff zs _).2 ⟨rs, h⟩⟩
        · rw [if_neg hr] at h; cases h
/-! ### What Pack answers -/
def fullS (zs : List Int) : Nat := 2 ^ zs.length - 1
def okPk (rows zs : List Int) : Bool := decide ((bst rows zs (fullS zs)).1.1 ≠ rows.length)
def rowsPk (rows zs : List Int) : List Nat := unF rows zs (fullS zs) (fullS zs) (List.replicate zs.length 0)
theorem full_bit {L i : Nat} (hL : L ≤ 7) (hi : i < L) : (2 ^ L - 1).testBit i = true := by
  have := full_bits ⟨L, by omega⟩ ⟨i, by omega⟩
  rw [this]; exact decide_eq_true hi
theorem bst_row (rows zs : List Int) (S : Nat) : (bst rows zs S).1.1 ≤ rows.length := by
  by_cases h0 : S = 0
  · subst h0; exact Nat.zero_le _
  · have h := (cell_le rows (bst rows zs) S zs 0 ((rows.length, 0), 0)).1
    rw [← bst_pos h0] at h
    unfold leF at h; dsimp only at h; omega
theorem pack_some {rows zs : List Int} (hz : ∀ z ∈ zs, 0 ≤ z) (hL : zs.length ≤ 7) (hx : ∀ x ∈ rows, 0 ≤ x) (hR : rows ≠ []) {rs : List Int} (h : pkF rows zs rs = true) : okPk rows zs = true := by
  obtain ⟨h1, h2, h3⟩ := (pk_loads zs rs rows hz hx).1 h
  have hR1 : 1 ≤ rows.length := List.length_pos_iff.2 hR
  have hp := Nat.two_pow_pos zs.length
  have := bst_least hz hL h3 (fullS zs) (by unfold fullS; omega) (rows.length - 1) (by omega) fun n hn hb => by
    have hm : rs[n]'(by omega) ∈ rs := List.getElem_mem _
    have := h2 _ hm
    unfold rwA
    rw [getD_lt (l := rs) (r := n) (by omega)]
    omega
  unfold leF at this
  dsimp only at this
  exact decide_eq_true (by omega)
theorem pack_fits {rows zs : List Int} (hz : ∀ z ∈ zs, 0 ≤ z) (hL : zs.length ≤ 7) (hx : ∀ x ∈ rows, 0 ≤ x) (hR : rows ≠ []) (h : okPk rows zs = true) : pkF rows zs ((rowsPk rows zs).map fun n : Nat => (n : Int)) = true := by
  have hne := of_decide_eq_true h
  have hr := bst_row rows zs (fullS zs)
  have hR1 : 0 < rows.length := List.length_pos_iff.2 hR
  have hp := Nat.two_pow_pos zs.length
  obtain ⟨h1, h2, h3, h4, h5, h6⟩ := un_ok (rows := rows) hz hL (by rw [getD_lt hR1]; exact hx _ (List.getElem_mem _)) (fullS zs) (fullS zs) (List.replicate zs.length 0) (Nat.le_refl _) (by unfold fullS; omega) (by omega) (by simp)
  have hb : ∀ i, i < zs.length → (fullS zs).testBit i = true := fun i hi => full_bit hL hi
  have hg : ∀ i, i < zs.length → rwA ((rowsPk rows zs).map fun n : Nat => (n : Int)) i = (rowsPk rows zs).getD i 0 := fun i hi => by
    unfold rwA
    rw [List.getD_eq_getElem?_getD, List.getElem?_map, List.getD_eq_getElem?_getD]
    cases (rowsPk rows zs)[i]? <;> rfl
  rw [pk_loads _ _ _ hz hx]
  refine ⟨by rw [List.length_map]; exact h1, fun r hr' => ?_, fun m hm => ?_⟩
  · obtain ⟨n, hn, rfl⟩ := List.mem_map.1 hr'
    obtain ⟨i, hi, rfl⟩ := List.getElem_of_mem hn
    have hi' : i < zs.length := by rw [← h1]; exact hi
    have := h3 i hi' (hb i hi')
    rw [List.getD_eq_getElem?_getD, List.getElem?_eq_getElem (by exact hi)] at this
    have h9 : (rowsPk rows zs)[i] < rows.length := this
    omega
  · rw [ldA_congr (b := fun i => (rowsPk rows zs).getD i 0) m fun i hi => by simpa using hg i (by simpa using hi)]
    obtain ⟨j1, j2, j3⟩ := h6 m
    rw [ldS_full fun i hi => by rw [Nat.zero_add]; exact hb i hi] at j1 j2 j3
    have hm0 : 0 ≤ rows.getD m 0 := by rw [getD_lt hm]; exact hx _ (List.getElem_mem _)
    rcases Nat.lt_trichotomy m (bst rows zs (fullS zs)).1.1 with g | g | g
    · have := j1 g
      unfold rowsPk; omega
    · have := j2 g
      rw [← g] at h5
      unfold rowsPk; omega
    · have := j3 g
      unfold rowsPk; omega
theorem can_ok {rows zs : List Int} (hz : ∀ z ∈ zs, 0 ≤ z) (hL : zs.length ≤ 7) (hx : ∀ x ∈ rows, 0 ≤ x) (hR : rows ≠ []) : canC zs rows = okPk rows zs := by
  rw [canC_eq, Bool.eq_iff_iff, canF_iff]
  exact ⟨fun ⟨rs, h⟩ => pack_some hz hL hx hR h, fun h => ⟨_, pack_fits hz hL hx hR h⟩⟩
end Go.Ab.T
end
