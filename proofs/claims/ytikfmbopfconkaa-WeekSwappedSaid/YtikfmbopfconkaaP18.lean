/-
  A part of the proofs over this seat.
  (The texts KwM7 KwK39, one behind the other.)
-/
import Derived.Test.YtikfmbopfconkaaP10
set_option linter.unusedSimpArgs false
set_option linter.unusedVariables false
set_option linter.unusedSectionVars false
section
namespace Go.Ab.T
set_option maxRecDepth 8000
set_option maxHeartbeats 1000000
/-! ### Sums along an exchange -/
theorem sumI_delta (c : Int) (a : Nat) : ∀ n s, sumI n s (fun j => if j = a then c else 0) = if s ≤ a ∧ a < s + n then c else 0
  | 0, s => by rw [if_neg (by omega)]; rfl
  | n + 1, s => by
    show (if s = a then c else 0) + sumI n (s + 1) _ = _
    rw [sumI_delta c a n (s + 1)]
    by_cases h : s = a
    · rw [if_pos h, if_neg (by omega), if_pos (by omega)]; omega
    · rw [if_neg h]
      by_cases h2 : s + 1 ≤ a ∧ a < s + 1 + n
      · rw [if_pos h2, if_pos (by omega)]; omega
      · rw [if_neg h2, if_neg (by omega)]; omega
theorem sumI_swap (f : Nat → Nat → Int) (m b : Nat) : ∀ n a, sumI n a (fun i => sumI m b (fun j => f i j)) = sumI m b (fun j => sumI n a (fun i => f i j))
  | 0, a => (sumI_zero m b).symm
  | n + 1, a => by
    show sumI m b (fun j => f a j) + sumI n (a + 1) (fun i => sumI m b (fun j => f i j)) = _
    rw [sumI_swap f m b n (a + 1), ← sumI_add]
    rfl
theorem sumI_invol {n : Nat} {σ : Nat → Nat} (hσ : ∀ i, i < n → σ i < n ∧ σ (σ i) = i) (g : Nat → Int) : sumI n 0 (fun i => g (σ i)) = sumI n 0 g := by
  have h1 : sumI n 0 (fun i => g (σ i)) = sumI n 0 (fun i => sumI n 0 (fun j => if j = σ i then g j else 0)) := sumI_congr fun i _ hi => by
    have e : (fun j => if j = σ i then g j else 0) = (fun j => if j = σ i then g (σ i) else 0) := funext fun j => by
      by_cases h : j = σ i
      · rw [if_pos h, if_pos h, h]
      · rw [if_neg h, if_neg h]
    rw [e, sumI_delta, if_pos ⟨Nat.zero_le _, by have := (hσ i (by omega)).1; omega⟩]
  rw [h1, sumI_swap]
  refine sumI_congr fun j _ hj => ?_
  have hj' := hσ j (by omega)
  have e : sumI n 0 (fun i => if j = σ i then g j else 0) = sumI n 0 (fun i => if i = σ j then g j else 0) := sumI_congr fun i _ hi => by
    have hi' := hσ i (by omega)
    by_cases h : j = σ i
    · rw [if_pos h, if_pos (by rw [h, hi'.2])]
    · rw [if_neg h, if_neg (fun e => h (by rw [e, hj'.2]))]
  rw [e, sumI_delta, if_pos ⟨Nat.zero_le _, by omega⟩]
/-- Two numbers are exchanged. -/
def swp (A B s : Nat) : Nat := if s = A then B else if s = B then A else s
theorem swp_l (A B : Nat) : swp A B A = B := if_pos rfl
theorem swp_r (A B : Nat) : swp A B B = A := by
  unfold swp
  split
  · rename_i h; exact h
  · rw [if_pos rfl]
theorem swp_o {A B s : Nat} (h1 : s ≠ A) (h2 : s ≠ B) : swp A B s = s := by unfold swp; rw [if_neg h1, if_neg h2]
theorem swp_swp (A B s : Nat) : swp A B (swp A B s) = s := by
  by_cases h1 : s = A
  · subst h1; rw [swp_l, swp_r]
  · by_cases h2 : s = B
    · subst h2; rw [swp_r, swp_l]
    · rw [swp_o h1 h2, swp_o h1 h2]
theorem swp_lt {A B n s : Nat} (hA : A < n) (hB : B < n) (hs : s < n) : swp A B s < n := by
  unfold swp
  split
  · exact hB
  · split
    · exact hA
    · exact hs
/-- Screens and days are renamed. -/
structure Sw (w : Wk) (δ τ : Nat → Nat) : Prop where
  t : ∀ s, s < w.rooms.length → τ s < w.rooms.length ∧ τ (τ s) = s
  r : ∀ s, s < w.rooms.length → w.rooms.getD (τ s) 0 = w.rooms.getD s 0
  d : ∀ x : Nat, (x : Int) < w.days → (δ x : Int) < w.days ∧ δ (δ x) = x
def DIn (δ : Nat → Nat) (d : Dl) : Prop := ∀ x : Nat, d.fr ≤ x → x ≤ d.to → d.fr ≤ δ x ∧ (δ x : Int) ≤ d.to
theorem scr_sum {w : Wk} {d : Dl} {sh day h : Nat} : ∀ (l : List Int) (k : Nat), w.rooms.drop k = l → ((scrN w d sh day h l k : Nat) : Int) = sumI l.length k (fun s => if (decide (d.seats ≤ w.rooms.getD s 0) && sh.testBit (slN w day s h)) = true then 1 else 0)
  | [], k, _ => rfl
  | x :: r, k, hk => by
    obtain ⟨h1, h2, _⟩ := drop_cons hk
    have hx : w.rooms.getD k 0 = x := by rw [List.getD_eq_getElem?_getD, h1]; rfl
    show ((((if (decide (d.seats ≤ x) && sh.testBit (slN w day k h)) = true then 1 else 0) + scrN w d sh day h r (k + 1) : Nat)) : Int) = _ + sumI r.length (k + 1) _
    rw [← scr_sum r (k + 1) h2]
    show ((((if (decide (d.seats ≤ x) && sh.testBit (slN w day k h)) = true then 1 else 0) + scrN w d sh day h r (k + 1) : Nat)) : Int) = (if (decide (d.seats ≤ w.rooms.getD k 0) && sh.testBit (slN w day k h)) = true then 1 else 0) + _
    rw [hx]
    split <;> simp
theorem runs_iff {w : Wk} {sh day s : Nat} : ∀ (n h : Nat), runsN w sh day s n h = true ↔ ∀ j, j < n → sh.testBit (slN w day s (h + j)) = true
  | 0, h => ⟨fun _ j hj => by omega, fun _ => rfl⟩
  | n + 1, h => by
    rw [runsN, Bool.and_eq_true, runs_iff n (h + 1)]
    refine ⟨fun ⟨h1, h2⟩ j hj => ?_, fun h1 => ⟨h1 0 (by omega), fun j hj => ?_⟩⟩
    · cases j with
      | zero => exact h1
      | succ j => rw [show h + (j + 1) = h + 1 + j by omega]; exact h2 j (by omega)
    · rw [show h + 1 + j = h + (j + 1) by omega]; exact h1 (j + 1) (by omega)
theorem hasScr_iff {w : Wk} {d : Dl} {sh day : Nat} : ∀ (l : List Int) (k : Nat), w.rooms.drop k = l → (hasScrN w d sh day l k = true ↔ ∃ s, k ≤ s ∧ s < w.rooms.length ∧ d.seats ≤ w.rooms.getD s 0 ∧ runsN w sh day s (d.late.toNat + 1 - d.early.toNat) d.early.toNat = true)
  | [], k, hk => by
    have := List.drop_eq_nil_iff.1 hk
    exact ⟨fun h => (by cases h), fun ⟨s, h1, h2, _⟩ => by omega⟩
  | x :: r, k, hk => by
    obtain ⟨h1, h2, h3⟩ := drop_cons hk
    have hx : w.rooms.getD k 0 = x := by rw [List.getD_eq_getElem?_getD, h1]; rfl
    rw [hasScrN, Bool.or_eq_true, Bool.and_eq_true, decide_eq_true_eq, hasScr_iff r (k + 1) h2]
    refine ⟨fun h => ?_, fun ⟨s, g1, g2, g3, g4⟩ => ?_⟩
    · rcases h with ⟨h4, h5⟩ | ⟨s, g1, g2, g3, g4⟩
      · exact ⟨k, Nat.le_refl _, h3, by rw [hx]; exact h4, h5⟩
      · exact ⟨s, by omega, g2, g3, g4⟩
    · rcases Nat.lt_or_ge k s with hlt | hge
      · exact .inr ⟨s, hlt, g2, g3, g4⟩
      · obtain rfl : s = k := by omega
        exact .inl ⟨by rw [← hx]; exact g3, g4⟩
theorem clean_iff {w : Wk} {d : Dl} {sh : Nat} : ∀ (n day : Nat), cleanN w d sh n day = true ↔ ∀ y, day ≤ y → y < day + n → hasScrN w d sh y w.rooms 0 = true
  | 0, day => ⟨fun _ y h1 h2 => by omega, fun _ => rfl⟩
  | n + 1, day => by
    rw [cleanN, Bool.and_eq_true, clean_iff n (day + 1)]
    refine ⟨fun ⟨h1, h2⟩ y g1 g2 => ?_, fun h => ⟨h day (Nat.le_refl _) (by omega), fun y g1 g2 => h y (by omega) (by omega)⟩⟩
    rcases Nat.lt_or_ge day y with hlt | hge
    · exact h2 y hlt (by omega)
    · obtain rfl : y = day := by omega
      exact h1
theorem dayS_eq {w : Wk} {d : Dl} {sh : Nat} : ∀ (n day : Nat), (((hrsN w d sh n day).sum : Nat) : Int) = sumI n day (fun x => (((hourN w d sh x (d.late.toNat + 1 - d.early.toNat) d.early.toNat).sum : Nat) : Int))
  | 0, _ => rfl
  | n + 1, day => by
    show (((hourN w d sh day _ _ ++ hrsN w d sh n (day + 1)).sum : Nat) : Int) = _ + sumI n (day + 1) _
    rw [← dayS_eq n (day + 1), List.sum_append, Int.natCast_add]
theorem dayM_eq {w : Wk} {d : Dl} {sh x : Nat} : ∀ (n day : Nat), x ∈ hrsN w d sh n day ↔ ∃ y, day ≤ y ∧ y < day + n ∧ x ∈ hourN w d sh y (d.late.toNat + 1 - d.early.toNat) d.early.toNat
  | 0, day => ⟨fun h => (by cases h), fun ⟨y, h1, h2, _⟩ => by omega⟩
  | n + 1, day => by
    rw [hrsN, List.mem_append, dayM_eq n (day + 1)]
    refine ⟨fun h => ?_, fun ⟨y, g1, g2, g3⟩ => ?_⟩
    · rcases h with h | ⟨y, g1, g2, g3⟩
      · exact ⟨day, Nat.le_refl _, by omega, h⟩
      · exact ⟨y, by omega, by omega, g3⟩
    · rcases Nat.lt_or_ge day y with hlt | hge
      · exact .inr ⟨y, hlt, by omega, g3⟩
      · obtain rfl : y = day := by omega
        exact .inl g3
theorem foldmax_le (c : Nat) : ∀ (l : List Nat) (a : Nat), l.foldl max a ≤ c ↔ a ≤ c ∧ ∀ x ∈ l, x ≤ c
  | [], a => by simp
  | x :: l, a => by
    rw [List.foldl_cons, foldmax_le c l (max a x), Nat.max_le, and_assoc]
    simp only [List.mem_cons, forall_eq_or_imp]
theorem foldmin_ge (c : Nat) : ∀ (l : List Nat) (a : Nat), c ≤ l.foldl min a ↔ c ≤ a ∧ ∀ x ∈ l, c ≤ x
  | [], a => by simp
  | x :: l, a => by
    rw [List.foldl_cons, foldmin_ge c l (min a x), Nat.le_min, and_assoc]
    simp only [List.mem_cons, forall_eq_or_imp]
section
variable {w : Wk} {δ τ : Nat → Nat} (hs : Sw w δ τ) {sh sh' : Nat} (hb : ∀ day s h : Nat, (day : Int) < w.days → s < w.rooms.length → (h : Int) < w.hours → sh'.testBit (slN w day s h) = sh.testBit (slN w (δ day) (τ s) h))
include hs hb
theorem scr_sw {d : Dl} {day h : Nat} (h1 : (day : Int) < w.days) (h2 : (h : Int) < w.hours) : scrN w d sh' day h w.rooms 0 = scrN w d sh (δ day) h w.rooms 0 := by
  have e1 := scr_sum (w := w) (d := d) (sh := sh') (day := day) (h := h) w.rooms 0 rfl
  have e2 := scr_sum (w := w) (d := d) (sh := sh) (day := δ day) (h := h) w.rooms 0 rfl
  have e3 : sumI w.rooms.length 0 (fun s => if (decide (d.seats ≤ w.rooms.getD s 0) && sh'.testBit (slN w day s h)) = true then (1 : Int) else 0) = sumI w.rooms.length 0 (fun s => (fun s => if (decide (d.seats ≤ w.rooms.getD s 0) && sh.testBit (slN w (δ day) s h)) = true then (1 : Int) else 0) (τ s)) := sumI_congr fun s _ hsl => by
    show _ = if (decide (d.seats ≤ w.rooms.getD (τ s) 0) && sh.testBit (slN w (δ day) (τ s) h)) = true then (1 : Int) else 0
    rw [hb day s h h1 (by omega) h2, hs.r s (by omega)]
  rw [e3, sumI_invol hs.t (fun s => if (decide (d.seats ≤ w.rooms.getD s 0) && sh.testBit (slN w (δ day) s h)) = true then (1 : Int) else 0), ← e2] at e1
  omega
theorem hasScr_sw {d : Dl} (hd : DV w d) {day : Nat} (h1 : (day : Int) < w.days) : hasScrN w d sh' day w.rooms 0 = hasScrN w d sh (δ day) w.rooms 0 := by
  have q1 := hd.e0
  have q2 := hd.el
  have q3 := hd.l
  have hrun : ∀ s, s < w.rooms.length → (runsN w sh' day s (d.late.toNat + 1 - d.early.toNat) d.early.toNat = true ↔ runsN w sh (δ day) (τ s) (d.late.toNat + 1 - d.early.toNat) d.early.toNat = true) := fun s hsl => by
    rw [runs_iff, runs_iff]
    exact ⟨fun h j hj => by rw [← hb day s _ h1 hsl (by omega)]; exact h j hj, fun h j hj => by rw [hb day s _ h1 hsl (by omega)]; exact h j hj⟩
  rw [Bool.eq_iff_iff, hasScr_iff w.rooms 0 rfl, hasScr_iff w.rooms 0 rfl]
  refine ⟨fun ⟨s, _, g2, g3, g4⟩ => ⟨τ s, Nat.zero_le _, (hs.t s g2).1, by rw [hs.r s g2]; exact g3, (hrun s g2).1 g4⟩, fun ⟨s, _, g2, g3, g4⟩ => ?_⟩
  have := hs.t s g2
  exact ⟨τ s, Nat.zero_le _, this.1, by rw [hs.r s g2]; exact g3, (hrun (τ s) this.1).2 (by rw [this.2]; exact g4)⟩
theorem hour_sw {d : Dl} {day : Nat} (h1 : (day : Int) < w.days) : ∀ n h : Nat, ((h + n : Nat) : Int) ≤ w.hours → hourN w d sh' day n h = hourN w d sh (δ day) n h
  | 0, _, _ => rfl
  | n + 1, h, hn => by rw [hourN, hourN, scr_sw hs hb h1 (by omega), hour_sw h1 n (h + 1) (by omega)]
theorem keeps_sw {d : Dl} (hd : DV w d) (hi : DIn δ d) : keepsB w d sh' = keepsB w d sh := by
  have q1 := hd.e0
  have q2 := hd.el
  have q3 := hd.l
  have q4 := hd.f0
  have q5 := hd.ft
  have q6 := hd.t
  have hin : ∀ y : Nat, d.fr.toNat ≤ y → y < d.fr.toNat + (d.to.toNat + 1 - d.fr.toNat) → (y : Int) < w.days ∧ d.fr.toNat ≤ δ y ∧ δ y < d.fr.toNat + (d.to.toNat + 1 - d.fr.toNat) ∧ δ (δ y) = y := fun y h1 h2 => by
    have h3 := hi y (by omega) (by omega)
    have h4 := hs.d y (by omega)
    exact ⟨by omega, by omega, by omega, h4.2⟩
  have hho : ∀ y : Nat, (y : Int) < w.days → hourN w d sh' y (d.late.toNat + 1 - d.early.toNat) d.early.toNat = hourN w d sh (δ y) (d.late.toNat + 1 - d.early.toNat) d.early.toNat := fun y hy => hour_sw hs hb hy _ _ (by omega)
  have hmem : ∀ x, x ∈ hrs w d sh' ↔ x ∈ hrs w d sh := fun x => by
    unfold hrs
    rw [dayM_eq, dayM_eq]
    refine ⟨fun ⟨y, g1, g2, g3⟩ => ?_, fun ⟨y, g1, g2, g3⟩ => ?_⟩
    · obtain ⟨k1, k2, k3, k4⟩ := hin y g1 g2
      exact ⟨δ y, k2, k3, by rw [← hho y k1]; exact g3⟩
    · obtain ⟨k1, k2, k3, k4⟩ := hin y g1 g2
      obtain ⟨j1, _⟩ := hin (δ y) k2 k3
      exact ⟨δ y, k2, k3, by rw [hho _ j1, k4]; exact g3⟩
  have hsum : (((hrs w d sh').sum : Nat) : Int) = (((hrs w d sh).sum : Nat) : Int) := by
    unfold hrs
    rw [dayS_eq, dayS_eq]
    generalize hn : d.to.toNat + 1 - d.fr.toNat = n at *
    rw [sumI_congr (g := fun x => (fun z => (((hourN w d sh z (d.late.toNat + 1 - d.early.toNat) d.early.toNat).sum : Nat) : Int)) (δ x)) fun y h1 h2 => by rw [hho y (hin y h1 h2).1]]
    generalize (fun z => (((hourN w d sh z (d.late.toNat + 1 - d.early.toNat) d.early.toNat).sum : Nat) : Int)) = G
    have e1 := sumI_shift (fun x => G (δ x)) d.fr.toNat n 0
    have e2 := sumI_shift G d.fr.toNat n 0
    rw [Nat.add_zero] at e1 e2
    rw [← e1, ← e2]
    have e3 := sumI_invol (n := n) (σ := fun i => δ (d.fr.toNat + i) - d.fr.toNat) (fun i hi => by
      obtain ⟨k1, k2, k3, k4⟩ := hin (d.fr.toNat + i) (by omega) (by omega)
      refine ⟨by show δ (d.fr.toNat + i) - d.fr.toNat < n; omega, ?_⟩
      show δ (d.fr.toNat + (δ (d.fr.toNat + i) - d.fr.toNat)) - d.fr.toNat = i
      rw [show d.fr.toNat + (δ (d.fr.toNat + i) - d.fr.toNat) = δ (d.fr.toNat + i) by omega, k4]
      omega) (fun h => G (d.fr.toNat + h))
    rw [← e3]
    refine sumI_congr fun i _ h2 => ?_
    obtain ⟨k1, k2, k3, k4⟩ := hin (d.fr.toNat + i) (by omega) (by omega)
    show G (δ (d.fr.toNat + i)) = G (d.fr.toNat + (δ (d.fr.toNat + i) - d.fr.toNat))
    rw [show d.fr.toNat + (δ (d.fr.toNat + i) - d.fr.toNat) = δ (d.fr.toNat + i) by omega]
  have hmax : ((((hrs w d sh').foldl max 0 : Nat) : Int) ≤ 1) ↔ ((((hrs w d sh).foldl max 0 : Nat) : Int) ≤ 1) := by
    have a := foldmax_le 1 (hrs w d sh') 0
    have b := foldmax_le 1 (hrs w d sh) 0
    have c : (∀ x ∈ hrs w d sh', x ≤ 1) ↔ ∀ x ∈ hrs w d sh, x ≤ 1 := ⟨fun h x hx => h x ((hmem x).2 hx), fun h x hx => h x ((hmem x).1 hx)⟩
    constructor
    · intro h
      have := b.2 ⟨by omega, c.1 (a.1 (by omega)).2⟩
      omega
    · intro h
      have := a.2 ⟨by omega, c.2 (b.1 (by omega)).2⟩
      omega
  have hmin : ((((hrs w d sh').foldl min 8 : Nat) : Int) ≥ 1) ↔ ((((hrs w d sh).foldl min 8 : Nat) : Int) ≥ 1) := by
    have a := foldmin_ge 1 (hrs w d sh') 8
    have b := foldmin_ge 1 (hrs w d sh) 8
    have c : (∀ x ∈ hrs w d sh', 1 ≤ x) ↔ ∀ x ∈ hrs w d sh, 1 ≤ x := ⟨fun h x hx => h x ((hmem x).2 hx), fun h x hx => h x ((hmem x).1 hx)⟩
    constructor
    · intro h
      have := b.2 ⟨by omega, c.1 (a.1 (by omega)).2⟩
      omega
    · intro h
      have := a.2 ⟨by omega, c.2 (b.1 (by omega)).2⟩
      omega
  have hcl : cleanN w d sh' (d.to.toNat + 1 - d.fr.toNat) d.fr.toNat = cleanN w d sh (d.to.toNat + 1 - d.fr.toNat) d.fr.toNat := by
    rw [Bool.eq_iff_iff, clean_iff, clean_iff]
    refine ⟨fun h y g1 g2 => ?_, fun h y g1 g2 => ?_⟩
    · obtain ⟨k1, k2, k3, k4⟩ := hin y g1 g2
      have := h (δ y) k2 k3
      rw [hasScr_sw hs hb hd (hin (δ y) k2 k3).1, k4] at this
      exact this
    · obtain ⟨k1, k2, k3, k4⟩ := hin y g1 g2
      rw [hasScr_sw hs hb hd k1]
      exact h (δ y) k2 k3
  unfold keepsB
  rw [hsum, hcl, decide_eq_decide.2 hmax, decide_eq_decide.2 hmin]
end
/-! ### Programs -/
theorem slN_split {w : Wk} (hw : WV w) {day s h : Nat} (h1 : s < w.rooms.length) (h2 : (h : Int) < w.hours) : slN w day s h / w.hours.toNat / w.rooms.length = day ∧ slN w day s h / w.hours.toNat % w.rooms.length = s ∧ slN w day s h % w.hours.toNat = h := by
  have hH := hw.h1
  have e1 : slN w day s h / w.hours.toNat = day * w.rooms.length + s := by
    unfold slN
    rw [Nat.mul_comm, Nat.mul_add_div (by omega), Nat.div_eq_of_lt (by omega), Nat.add_zero]
  rw [e1]
  refine ⟨?_, ?_, ?_⟩
  · rw [Nat.mul_comm, Nat.mul_add_div (by omega), Nat.div_eq_of_lt h1, Nat.add_zero]
  · rw [Nat.mul_comm, Nat.mul_add_mod, Nat.mod_eq_of_lt h1]
  · unfold slN
    rw [Nat.mul_comm, Nat.mul_add_mod, Nat.mod_eq_of_lt (by omega)]
theorem slN_inj {w : Wk} (hw : WV w) {a b c a' b' c' : Nat} (h1 : b < w.rooms.length) (h2 : (c : Int) < w.hours) (h1' : b' < w.rooms.length) (h2' : (c' : Int) < w.hours) (h : slN w a b c = slN w a' b' c') : a = a' ∧ b = b' ∧ c = c' := by
  obtain ⟨e1, e2, e3⟩ := slN_split hw (day := a) h1 h2
  obtain ⟨f1, f2, f3⟩ := slN_split hw (day := a') h1' h2'
  rw [h] at e1 e2 e3
  exact ⟨by omega, by omega, by omega⟩
theorem slot_cells {w : Wk} (hw : WV w) {i : Nat} (hi : (i : Int) < w.slots) : (((i / w.hours.toNat / w.rooms.length : Nat)) : Int) < w.days ∧ i / w.hours.toNat % w.rooms.length < w.rooms.length ∧ (((i % w.hours.toNat : Nat)) : Int) < w.hours ∧ slN w (i / w.hours.toNat / w.rooms.length) (i / w.hours.toNat % w.rooms.length) (i % w.hours.toNat) = i := by
  have hH := hw.h1
  have hR := hw.r1
  have hD := hw.d1
  rw [slots_nat hw] at hi
  have h1 : i < w.days.toNat * w.rooms.length * w.hours.toNat := by omega
  have h2 : i / w.hours.toNat < w.days.toNat * w.rooms.length := Nat.div_lt_of_lt_mul (by rw [Nat.mul_comm]; exact h1)
  have h3 : i / w.hours.toNat / w.rooms.length < w.days.toNat := Nat.div_lt_of_lt_mul (by rw [Nat.mul_comm]; exact h2)
  refine ⟨by omega, Nat.mod_lt _ (by omega), by have := Nat.mod_lt i (show 0 < w.hours.toNat by omega); omega, ?_⟩
  unfold slN
  rw [Nat.div_add_mod', Nat.div_add_mod']
/-- A program whose screens and days are renamed. -/
def OSw (w : Wk) (δ τ : Nat → Nat) (o p : List Int) : Prop := o.length = p.length ∧ ∀ day s h : Nat, (day : Int) < w.days → s < w.rooms.length → (h : Int) < w.hours → o[slN w day s h]? = p[slN w (δ day) (τ s) h]?
theorem osw_prog {w : Wk} (hw : WV w) {δ τ : Nat → Nat} {o p : List Int} (h : OSw w δ τ o p) (hp : progOK w p = true) : progOK w o = true := by
  have hl := prog_slots hp
  unfold progOK at hp ⊢
  simp only [Bool.and_eq_true, List.all_eq_true, beq_iff_eq] at hp ⊢
  refine ⟨fun x hx => ?_, by rw [h.1]; exact hp.2⟩
  obtain ⟨i, hi⟩ := List.getElem?_of_mem hx
  have hil := (List.getElem?_eq_some_iff.1 hi).1
  obtain ⟨c1, c2, c3, c4⟩ := slot_cells hw (i := i) (by rw [h.1] at hil; omega)
  have := h.2 _ _ _ c1 c2 c3
  rw [c4, hi] at this
  exact hp.1 x (List.mem_of_getElem? this.symm)
theorem osw_broken {w : Wk} {δ τ : Nat → Nat} (hs : Sw w δ τ) {o p : List Int} (h : OSw w δ τ o p) : ∀ (l : List Dl) (k : Nat), (∀ d ∈ l, DV w d ∧ DIn δ d) → brokenL w o l k = brokenL w p l k
  | [], _, _ => rfl
  | d :: r, k, hl => by
    have hd := hl d (by simp)
    have e := keeps_sw hs (sh := shownN d.film p 0 0) (sh' := shownN d.film o 0 0) (fun day s hh h1 h2 h3 => by rw [shown_bit, shown_bit, h.2 day s hh h1 h2 h3]) hd.1 hd.2
    rw [brokenL, brokenL, e, osw_broken hs h r (k + 1) fun d' hd' => hl d' (by simp [hd'])]
theorem osw_take {w : Wk} (hw : WV w) {δ τ : Nat → Nat} (hs : Sw w δ τ) {o p : List Int} (h : OSw w δ τ o p) (hp : progOK w p = true) : takeS w o = takeS w p := by
  have hl := prog_slots hp
  have hH := hw.h1
  unfold takeS
  rw [h.1]
  have hc : ∀ i, i < p.length → _ := fun i hi => slot_cells hw (i := i) (by omega)
  have e := sumI_invol (n := p.length) (σ := fun i => slN w (δ (i / w.hours.toNat / w.rooms.length)) (τ (i / w.hours.toNat % w.rooms.length)) (i % w.hours.toNat)) (fun i hi => by
    obtain ⟨c1, c2, c3, c4⟩ := hc i hi
    have d1 := hs.d _ c1
    have t1 := hs.t _ c2
    refine ⟨?_, ?_⟩
    · have := slN_lts hw d1.1 t1.1 c3
      show slN w _ _ _ < p.length
      omega
    · show slN w (δ (slN w _ _ _ / w.hours.toNat / w.rooms.length)) (τ (slN w _ _ _ / w.hours.toNat % w.rooms.length)) (slN w _ _ _ % w.hours.toNat) = i
      obtain ⟨f1, f2, f3⟩ := slN_split hw (day := δ (i / w.hours.toNat / w.rooms.length)) t1.1 c3
      rw [f1, f2, f3, d1.2, t1.2]
      exact c4) (fun i => seeV w (p.getD i 0) (i / w.hours.toNat % w.rooms.length) (i % w.hours.toNat))
  rw [← e]
  refine sumI_congr fun i _ hi => ?_
  obtain ⟨c1, c2, c3, c4⟩ := hc i (by omega)
  have d1 := hs.d _ c1
  have t1 := hs.t _ c2
  obtain ⟨f1, f2, f3⟩ := slN_split hw (day := δ (i / w.hours.toNat / w.rooms.length)) t1.1 c3
  show _ = seeV w (p.getD (slN w _ _ _) 0) (slN w _ _ _ / w.hours.toNat % w.rooms.length) (slN w _ _ _ % w.hours.toNat)
  rw [f2, f3]
  have ho := h.2 _ _ _ c1 c2 c3
  rw [c4] at ho
  rw [List.getD_eq_getElem?_getD, List.getD_eq_getElem?_getD, ho]
  unfold seeV
  rw [hs.r _ c2]
/-! ### Step by step -/
structure PSw (w : Wk) (δ τ : Nat → Nat) (dn : Nat → Nat → Nat → Bool) (o p : List Int) : Prop where
  len : o.length = p.length
  cel : ∀ day s h : Nat, (day : Int) < w.days → s < w.rooms.length → (h : Int) < w.hours → o[slN w day s h]? = if dn day s h = true then p[slN w (δ day) (τ s) h]? else p[slN w day s h]?
theorem psw_congr {w : Wk} {δ τ : Nat → Nat} {dn dn' : Nat → Nat → Nat → Bool} {o p : List Int} (h : PSw w δ τ dn o p) (he : ∀ day s h : Nat, (day : Int) < w.days → s < w.rooms.length → (h : Int) < w.hours → dn' day s h = dn day s h) : PSw w δ τ dn' o p :=
  ⟨h.1, fun day s hh h1 h2 h3 => by rw [he day s hh h1 h2 h3]; exact h.2 day s hh h1 h2 h3⟩
theorem psw_step {w : Wk} (hw : WV w) {δ τ : Nat → Nat} {dn dn' : Nat → Nat → Nat → Bool} {o p : List Int} (h : PSw w δ τ dn o p) {d1 s1 d2 s2 h0 : Nat} (r1 : (d1 : Int) < w.days) (r2 : s1 < w.rooms.length) (r3 : (d2 : Int) < w.days) (r4 : s2 < w.rooms.length) (r5 : (h0 : Int) < w.hours)
    (e1 : δ d1 = d2) (e2 : τ s1 = s2) (e3 : δ d2 = d1) (e4 : τ s2 = s1) {x y : Int} (hx : p[slN w d1 s1 h0]? = some x) (hy : p[slN w d2 s2 h0]? = some y) (n1 : dn' d1 s1 h0 = true) (n2 : dn' d2 s2 h0 = true)
    (hdn : ∀ day s h : Nat, ¬(day = d1 ∧ s = s1 ∧ h = h0) → ¬(day = d2 ∧ s = s2 ∧ h = h0) → dn' day s h = dn day s h ∨ (δ day = day ∧ τ s = s)) : PSw w δ τ dn' ((o.set (slN w d1 s1 h0) y).set (slN w d2 s2 h0) x) p := by
  have hl := h.1
  have l1 := (List.getElem?_eq_some_iff.1 hx).1
  have l2 := (List.getElem?_eq_some_iff.1 hy).1
  refine ⟨by simp [hl], fun day s hh g1 g2 g3 => ?_⟩
  by_cases k2 : day = d2 ∧ s = s2 ∧ hh = h0
  · obtain ⟨rfl, rfl, rfl⟩ := k2
    rw [List.getElem?_set_self (by rw [List.length_set]; omega), if_pos n2, e3, e4, hx]
  · by_cases k1 : day = d1 ∧ s = s1 ∧ hh = h0
    · obtain ⟨rfl, rfl, rfl⟩ := k1
      rw [List.getElem?_set_ne (fun e => k2 (by obtain ⟨a, b, c⟩ := slN_inj hw r4 r5 g2 g3 e; exact ⟨a.symm, b.symm, c.symm⟩)), List.getElem?_set_self (by omega), if_pos n1, e1, e2, hy]
    · rw [List.getElem?_set_ne (fun e => k2 (by obtain ⟨a, b, c⟩ := slN_inj hw r4 r5 g2 g3 e; exact ⟨a.symm, b.symm, c.symm⟩)), List.getElem?_set_ne (fun e => k1 (by obtain ⟨a, b, c⟩ := slN_inj hw r2 r5 g2 g3 e; exact ⟨a.symm, b.symm, c.symm⟩)), h.2 day s hh g1 g2 g3]
      rcases hdn day s hh k1 k2 with h5 | ⟨h5, h6⟩
      · rw [h5]
      · rw [h5, h6]; split <;> split <;> rfl
theorem psw_start {w : Wk} {δ τ : Nat → Nat} {dn : Nat → Nat → Nat → Bool} (p : List Int) (h : ∀ day s h, dn day s h = false) : PSw w δ τ dn p p := ⟨rfl, fun day s hh _ _ _ => by rw [h, if_neg (by decide)]⟩
theorem psw_end {w : Wk} {δ τ : Nat → Nat} {dn : Nat → Nat → Nat → Bool} {o p : List Int} (h : PSw w δ τ dn o p) (he : ∀ day s h : Nat, (day : Int) < w.days → s < w.rooms.length → (h : Int) < w.hours → dn day s h = true) : OSw w δ τ o p :=
  ⟨h.1, fun day s hh h1 h2 h3 => by rw [h.2 day s hh h1 h2 h3, if_pos (he day s hh h1 h2 h3)]⟩
end Go.Ab.T
end

section
namespace Go.Ab.T
set_option maxRecDepth 8000
set_option maxHeartbeats 4000000
/-- What is done: some days (or screens), and some hours of the next one. -/
def dnA (x y : Nat) : Nat → Nat → Nat → Bool := fun day _ h => decide (day < x ∨ (day = x ∧ h < y))
def dnB (x y : Nat) : Nat → Nat → Nat → Bool := fun _ s h => decide (s < x ∨ (s = x ∧ h < y))
theorem cp_ok (p : List Int) (hp : p ≠ []) (hl : p.length ≤ 1000) (BL : List Blk) (tk : List (Nat × Nat)) : ∃ v, append0 ⟨BL, tk⟩ (.sl [] .tight) (encIs p) 1 8 = some (v, ⟨BL ++ [.live (p.map I64) 1], tk⟩) ∧ v = .ref BL.length 0 p.length := by
  refine ⟨_, ?_, rfl⟩
  cases p with
  | nil => exact absurd rfl hp
  | cons x p =>
    unfold encIs
    simp only [append0, Mem.elems]
    rw [if_pos ⟨⟨by rw [List.length_map]; simp only [limit]; omega, rfl⟩, by simp⟩, List.length_map]; rfl
theorem st_ok {BL : List Blk} {tk : List (Nat × Nat)} {l : List Int} {a : Nat} (v : Int) (ha : a < l.length) : storeAt ⟨BL ++ [.live (l.map I64) 1], tk⟩ (.ptr BL.length a 0) (I64 v) 1 = some ⟨BL ++ [.live ((l.set a v).map I64) 1], tk⟩ := by
  have hx : (l.map I64)[a]? = some (I64 l[a]) := by rw [List.getElem?_map, List.getElem?_eq_getElem ha]; rfl
  simp only [storeAt, get_last, hx, show (I64 v).cells = [I64 v] from rfl, AV.solids, List.length_singleton, List.all_cons, List.all_nil, show (I64 v).solid = true from rfl, Bool.and_self, and_self, if_true]
  rw [show writeCells (I64 l[a]) 0 [I64 v] = some (I64 v) from rfl]
  simp only [Option.map_some]
  rw [set_at _ _ _ _ rfl, List.map_set]
theorem ix_ok {BL : List Blk} {tk : List (Nat × Nat)} {l : List Int} {a n : Nat} (ha : a < n) : idxAt ⟨BL ++ [.live (l.map I64) 1], tk⟩ (.ref BL.length 0 n) (I64 a) 1 = some (.ptr BL.length a 0) := by
  rw [idxAt_ref, lsz_eq, get_last, if_pos ⟨⟨by omega, by omega⟩, rfl⟩]; simp
theorem sn_ok {BL : List Blk} {tk : List (Nat × Nat)} {l : List Int} {n : Nat} (hn : l.length = n) (hne : l ≠ []) (q : Nat) : Ab.snap ⟨BL ++ [.live (l.map I64) 1], tk⟩ (q + 2) (.ref BL.length 0 n) = encIs l := by
  have h := OV.snap (n0 := 0) (es := l.map I64) (sz := 1) (v := .ref BL.length 0 n) (bl := BL ++ [.live (l.map I64) 1]) (.inr ⟨by simpa using hne, BL.length, Nat.zero_le _, by rw [List.length_map, hn], get_last _ _⟩) tk (q + 1)
  rw [h, List.map_map, show Ab.snap ⟨BL ++ [.live (l.map I64) 1], tk⟩ (q + 1) ∘ I64 = I64 from funext fun _ => rfl]; rfl
theorem keptP_ok (w : Wk) (hc : chkW w = 0) (o : List Int) (ho : progOK w o = true) : RV ft 34 [encW w, encIs o, encNs (brokenL w o w.deals 0), I64 (takeS w o)] (.bool true) := by
  refine RV_of ft34 rfl ?_
  simp only [c34, r34]
  have hBr := Broken_at hc ho
  have hTk := Takings_at hc ho
  have hs := sameNs_ok _ _ rfl (broken_len hc o)
  simp only [go_sem, Nat.reduceEqDiff, Nat.reduceAdd, Nat.reduceLT, Nat.reduceLeDiff, reduceIte, WCells, WEta, FCells, FEta, DCells, DEta, cellsIs, solidIs, cellsFs, solidFs, cellsDs, solidDs, Bool.and_self, Is_len, Fs_len, Ds_len, true_and, snW, hotW, snD, hotD, snIs, hotIs, WB16, WVH_eq hBr, WB18, WVH_eq hTk, WB20, Ns_sn, Ns_hot, WVH_eq hs, show ((0 : Int) == 0) = true from rfl, beq_self_eq_true]
theorem sw_rooms {w : Wk} {A B : Nat} (hA : A < w.rooms.length) (hB : B < w.rooms.length) (h : w.rooms[A]? = w.rooms[B]?) : Sw w id (swp A B) := by
  refine ⟨fun s hs => ⟨swp_lt hA hB hs, swp_swp A B s⟩, fun s hs => ?_, fun x hx => ⟨hx, rfl⟩⟩
  rw [List.getD_eq_getElem?_getD, List.getD_eq_getElem?_getD]
  by_cases h1 : s = A
  · subst h1; rw [swp_l, h]
  · by_cases h2 : s = B
    · subst h2; rw [swp_r, h]
    · rw [swp_o h1 h2]
theorem sw_days {w : Wk} {A B : Nat} (hA : (A : Int) < w.days) (hB : (B : Int) < w.days) : Sw w (swp A B) id := by
  refine ⟨fun s hs => ⟨hs, rfl⟩, fun s hs => rfl, fun x hx => ⟨?_, swp_swp A B x⟩⟩
  have := swp_lt (A := A) (B := B) (n := w.days.toNat) (s := x) (by omega) (by omega) (by omega)
  omega
theorem kept_sw {w : Wk} (hc : chkW w = 0) {δ τ : Nat → Nat} (hs : Sw w δ τ) {o p : List Int} (h : OSw w δ τ o p) (hp : progOK w p = true) (hd : ∀ d ∈ w.deals, DIn δ d) : RV ft 34 [encW w, encIs o, encNs (brokenL w p w.deals 0), I64 (takeS w p)] (.bool true) := by
  have hw := WV_of (chkW_ok hc).1
  have := keptP_ok w hc o (osw_prog hw h hp)
  rwa [osw_broken hs h w.deals 0 fun d hdd => ⟨chkW_DV hc d hdd, hd d hdd⟩, osw_take hw hs h hp] at this
theorem WeekSwapped_run (w : Wk) (hfl : FL w) (p : List Int) (hpl : p.length < 9223372036854775808) (a b : Int) : RV ft 9 [encW w, encIs p, .agg [I64 a, I64 b]] (.bool true) := by
  refine RV_of ft9 rfl ?_
  simp only [c9, r9]
  cases hh : hugeB w
  case true => simp only [go_sem, Nat.reduceEqDiff, Nat.reduceAdd, Nat.reduceLT, Nat.reduceLeDiff, reduceIte, WCells, WEta, FCells, FEta, DCells, DEta, cellsIs, solidIs, cellsFs, solidFs, cellsDs, solidDs, Bool.and_self, Is_len, Fs_len, Ds_len, true_and, snW, hotW, snD, hotD, snIs, hotIs, WB11, WVH_eq (huge_ok w hfl), hh, WB12, WVH_eq works_ok]
  by_cases hc : chkW w = 0
  case neg =>
    have n0 : (chkW w != 0) = true := by rw [bne, beq_eq_false_iff_ne.2 hc]; rfl
    simp only [go_sem, Nat.reduceEqDiff, Nat.reduceAdd, Nat.reduceLT, Nat.reduceLeDiff, reduceIte, WCells, WEta, FCells, FEta, DCells, DEta, cellsIs, solidIs, cellsFs, solidFs, cellsDs, solidDs, Bool.and_self, Is_len, Fs_len, Ds_len, true_and, snW, hotW, snD, hotD, snIs, hotIs, WB11, WVH_eq (huge_ok w hfl), hh, WB15, WVH_eq (CheckR_ok w), n0, WB12, WVH_eq works_ok]
  have hw := WV_of (chkW_ok hc).1
  have hIP := IsProgram_ok w hw p hpl
  cases hp : progOK w p
  case false =>
    rw [hp] at hIP
    simp only [go_sem, Nat.reduceEqDiff, Nat.reduceAdd, Nat.reduceLT, Nat.reduceLeDiff, reduceIte, WCells, WEta, FCells, FEta, DCells, DEta, cellsIs, solidIs, cellsFs, solidFs, cellsDs, solidDs, Bool.and_self, Is_len, Fs_len, Ds_len, true_and, snW, hotW, snD, hotD, snIs, hotIs, WB11, WVH_eq (huge_ok w hfl), hh, WB15, WVH_eq (CheckR_ok w), hc, show ((0 : Int) != 0) = false from rfl, WB29, WVH_eq hIP, WB12, WVH_eq works_ok]
  rw [hp] at hIP
  cases u1 : decide (a < 0)
  case true => simp only [go_sem, Nat.reduceEqDiff, Nat.reduceAdd, Nat.reduceLT, Nat.reduceLeDiff, reduceIte, WCells, WEta, FCells, FEta, DCells, DEta, cellsIs, solidIs, cellsFs, solidFs, cellsDs, solidDs, Bool.and_self, Is_len, Fs_len, Ds_len, true_and, snW, hotW, snD, hotD, snIs, hotIs, WB11, WVH_eq (huge_ok w hfl), hh, WB15, WVH_eq (CheckR_ok w), hc, show ((0 : Int) != 0) = false from rfl, WB29, WVH_eq hIP, u1, WB12, WVH_eq works_ok]
  cases u2 : decide (b < 0)
  case true => simp only [go_sem, Nat.reduceEqDiff, Nat.reduceAdd, Nat.reduceLT, Nat.reduceLeDiff, reduceIte, WCells, WEta, FCells, FEta, DCells, DEta, cellsIs, solidIs, cellsFs, solidFs, cellsDs, solidDs, Bool.and_self, Is_len, Fs_len, Ds_len, true_and, snW, hotW, snD, hotD, snIs, hotIs, WB11, WVH_eq (huge_ok w hfl), hh, WB15, WVH_eq (CheckR_ok w), hc, show ((0 : Int) != 0) = false from rfl, WB29, WVH_eq hIP, u1, u2, WB12, WVH_eq works_ok]
  have t1 := of_decide_eq_false u1
  have t2 := of_decide_eq_false u2
  obtain ⟨A, rfl⟩ : ∃ A : Nat, a = (A : Int) := ⟨a.toNat, by omega⟩
  obtain ⟨B, rfl⟩ : ∃ B : Nat, b = (B : Int) := ⟨b.toNat, by omega⟩
  have hBr := Broken_at hc hp
  have hTk := Takings_at hc hp
  have hps := prog_slots hp
  have hp8 := prog_len hw hp
  have hsp := slots_pos hw
  have hpn : p ≠ [] := by rintro rfl; simp at hps; omega
  have z1 := hw.d1
  have z2 := hw.d2
  have z3 := hw.r2
  have z4 := hw.h1
  have z5 := hw.h2
  have z6 := hw.d
  have hSl : ∀ day s h : Nat, day ≤ 100 → s ≤ 100 → h ≤ 100 → RV ft 33 [encW w, I64 day, I64 s, I64 h] (I64 (slN w day s h : Nat)) := fun day s h h1 h2 h3 => by
    have := Slot_ok w day s h ⟨by omega, by omega⟩ ⟨by omega, by omega⟩ ⟨by omega, by omega⟩ z3 (by omega) z5
    rwa [slN_cast hw] at this
  have hdec : ∀ n : Nat, n < w.days.toNat → decide ((n : Int) < w.days) = true := fun n h => decide_eq_true (by omega)
  have hdec2 : ∀ n : Nat, n = w.days.toNat → decide ((n : Int) < w.days) = false := fun n h => decide_eq_false (by omega)
  have hde3 : ∀ n : Nat, n < w.hours.toNat → decide ((n : Int) < w.hours) = true := fun n h => decide_eq_true (by omega)
  have hde4 : ∀ n : Nat, n = w.hours.toNat → decide ((n : Int) < w.hours) = false := fun n h => decide_eq_false (by omega)
  have hKS : ∀ δ τ o, Sw w δ τ → OSw w δ τ o p → (∀ d ∈ w.deals, DIn δ d) → RV ft 34 [encW w, encIs o, encNs (brokenL w p w.deals 0), I64 (takeS w p)] (.bool true) := fun δ τ o h1 h2 h3 => kept_sw hc h1 h2 hp h3
  generalize hbad : brokenL w p w.deals 0 = bad at *
  generalize htk : takeS w p = tk at *
  obtain ⟨rv, hcp, hrv⟩ := cp_ok p hpn (by omega) [Blk.live [encW w] 5, Blk.live [.agg [I64 A, I64 B]] 2] []
  have hcp' : append0 ⟨[Blk.live [encW w] 5, Blk.live [.agg [I64 A, I64 B]] 2], []⟩ (.sl [] .tight) (encIs p) 1 8 = some (rv, ⟨[Blk.live [encW w] 5, Blk.live [.agg [I64 A, I64 B]] 2, .live (p.map I64) 1], []⟩) := hcp
  have rc : rv.cells = [rv] ∧ rv.solid = true ∧ rv.isAgg = false := by subst hrv; exact ⟨rfl, rfl, rfl⟩
  obtain ⟨rc1, rc2, rc3⟩ := rc
  cases v1 : decide ((A : Int) < (w.rooms.length : Int))
  case' false => simp only [go_sem, Nat.reduceEqDiff, Nat.reduceAdd, Nat.reduceLT, Nat.reduceLeDiff, reduceIte, WCells, WEta, FCells, FEta, DCells, DEta, cellsIs, solidIs, cellsFs, solidFs, cellsDs, solidDs, Bool.and_self, Is_len, Fs_len, Ds_len, true_and, snW, hotW, snD, hotD, snIs, hotIs, WB11, WVH_eq (huge_ok w hfl), hh, WB15, WVH_eq (CheckR_ok w), hc, show ((0 : Int) != 0) = false from rfl, WB29, WVH_eq hIP, u1, u2, WB16, WVH_eq hBr, WB18, WVH_eq hTk, v1]
  case' true =>
    have s1 := of_decide_eq_true v1
    obtain ⟨ra, hra⟩ : ∃ ra, w.rooms[A]? = some ra := ⟨_, List.getElem?_eq_getElem (by omega)⟩
    cases v2 : decide ((B : Int) < (w.rooms.length : Int))
    case' false => simp only [go_sem, Nat.reduceEqDiff, Nat.reduceAdd, Nat.reduceLT, Nat.reduceLeDiff, reduceIte, WCells, WEta, FCells, FEta, DCells, DEta, cellsIs, solidIs, cellsFs, solidFs, cellsDs, solidDs, Bool.and_self, Is_len, Fs_len, Ds_len, true_and, snW, hotW, snD, hotD, snIs, hotIs, WB11, WVH_eq (huge_ok w hfl), hh, WB15, WVH_eq (CheckR_ok w), hc, show ((0 : Int) != 0) = false from rfl, WB29, WVH_eq hIP, u1, u2, WB16, WVH_eq hBr, WB18, WVH_eq hTk, v1, v2]
    case' true =>
      have s2 := of_decide_eq_true v2
      obtain ⟨rb, hrb⟩ : ∃ rb, w.rooms[B]? = some rb := ⟨_, List.getElem?_eq_getElem (by omega)⟩
      cases v3 : (ra == rb)
      case' false => simp only [go_sem, Nat.reduceEqDiff, Nat.reduceAdd, Nat.reduceLT, Nat.reduceLeDiff, reduceIte, WCells, WEta, FCells, FEta, DCells, DEta, cellsIs, solidIs, cellsFs, solidFs, cellsDs, solidDs, Bool.and_self, Is_len, Fs_len, Ds_len, true_and, snW, hotW, snD, hotD, snIs, hotIs, WB11, WVH_eq (huge_ok w hfl), hh, WB15, WVH_eq (CheckR_ok w), hc, show ((0 : Int) != 0) = false from rfl, WB29, WVH_eq hIP, u1, u2, WB16, WVH_eq hBr, WB18, WVH_eq hTk, v1, v2, Is_idx _ hra, Is_idx _ hrb, v3]
      case' true =>
        have hSw : Sw w id (swp A B) := sw_rooms (by omega) (by omega) (by rw [hra, hrb, eq_of_beq v3])
        simp only [go_sem, Nat.reduceEqDiff, Nat.reduceAdd, Nat.reduceLT, Nat.reduceLeDiff, reduceIte, WCells, WEta, FCells, FEta, DCells, DEta, cellsIs, solidIs, cellsFs, solidFs, cellsDs, solidDs, Bool.and_self, Is_len, Fs_len, Ds_len, true_and, snW, hotW, snD, hotD, snIs, hotIs, WB11, WVH_eq (huge_ok w hfl), hh, WB15, WVH_eq (CheckR_ok w), hc, show ((0 : Int) != 0) = false from rfl, WB29, WVH_eq hIP, u1, u2, WB16, WVH_eq hBr, WB18, WVH_eq hTk, v1, v2, Is_idx _ hra, Is_idx _ hrb, v3, hcp', rc1, rc2, rc3]
        refine WL_inv (α := Nat × Nat × List Int) (fun q e mm => e 1 = encIs p ∧ e 3 = .ptr 0 0 0 ∧ e 5 = .ptr 1 0 0 ∧ e 7 = encNs bad ∧ e 9 = I64 tk ∧ e 11 = rv ∧ e 12 = I64 q.1 ∧ q.1 + q.2.1 = w.days.toNat ∧ PSw w id (swp A B) (dnA q.1 0) q.2.2 p ∧ mm = ⟨[Blk.live [encW w] 5, Blk.live [.agg [I64 A, I64 B]] 2, .live (q.2.2.map I64) 1], []⟩) (fun q => q.2.1) (0, w.days.toNat, p) ?_ ?_
        · simp only [go_sem, Nat.reduceEqDiff, Nat.reduceAdd, Nat.reduceLT, Nat.reduceLeDiff, reduceIte]
          (repeat' apply And.intro) <;> first | trivial | rfl | omega | exact psw_start p fun day s h => decide_eq_false (by omega)
        rintro ⟨day, r, o⟩ e m ⟨g1, g3, g5, g7, g9, g11, g12, hr, hP, rfl⟩
        dsimp only at g12 hr hP
        rcases r with _ | r
        rotate_left
        · have hdl := hdec day (by omega)
          simp only [go_sem, Nat.reduceEqDiff, Nat.reduceAdd, Nat.reduceLT, Nat.reduceLeDiff, reduceIte, g1, g3, g5, g7, g9, g11, g12, WCells, WEta, hdl]
          refine WL_inv (α := Nat × Nat × List Int) (fun q e mm => e 1 = encIs p ∧ e 3 = .ptr 0 0 0 ∧ e 5 = .ptr 1 0 0 ∧ e 7 = encNs bad ∧ e 9 = I64 tk ∧ e 11 = rv ∧ e 12 = I64 day ∧ e 13 = I64 q.1 ∧ q.1 + q.2.1 = w.hours.toNat ∧ PSw w id (swp A B) (dnA day q.1) q.2.2 p ∧ mm = ⟨[Blk.live [encW w] 5, Blk.live [.agg [I64 A, I64 B]] 2, .live (q.2.2.map I64) 1], []⟩) (fun q => q.2.1) (0, w.hours.toNat, o) ?_ ?_
          · simp only [go_sem, Nat.reduceEqDiff, Nat.reduceAdd, Nat.reduceLT, Nat.reduceLeDiff, reduceIte, g1, g3, g5, g7, g9, g11, g12]
            (repeat' apply And.intro) <;> first | trivial | rfl | omega | exact hP
          rintro ⟨h, r2, o⟩ e m ⟨g1, g3, g5, g7, g9, g11, g12, g13, hr2, hP, rfl⟩
          dsimp only at g13 hr2 hP
          cases r2 with
          | zero =>
            have hhl := hde4 h (by omega)
            simp only [go_sem, Nat.reduceEqDiff, Nat.reduceAdd, Nat.reduceLT, Nat.reduceLeDiff, reduceIte, g1, g3, g5, g7, g9, g11, g12, g13, WCells, WEta, hhl, wrap_n1 day (by omega)]
            refine Nx_of (day + 1, r, o) (by simp) ?_
            simp only [go_sem, Nat.reduceEqDiff, Nat.reduceAdd, Nat.reduceLT, Nat.reduceLeDiff, reduceIte, g1, g3, g5, g7, g9, g11]
            refine ⟨trivial, trivial, trivial, trivial, trivial, trivial, trivial, (by first | trivial | omega), psw_congr hP fun day' s' h' _ _ h3 => ?_, trivial⟩
            unfold dnA
            rw [decide_eq_decide]; omega
          | succ r2 =>
            have hhl := hde3 h (by omega)
            have hSA := hSl day A h (by omega) (by omega) (by omega)
            have hSB := hSl day B h (by omega) (by omega) (by omega)
            have la : slN w day A h < p.length := by have := slN_lts hw (day := day) (s := A) (h := h) (by omega) (by omega) (by omega); omega
            have lb : slN w day B h < p.length := by have := slN_lts hw (day := day) (s := B) (h := h) (by omega) (by omega) (by omega); omega
            obtain ⟨x, hx⟩ : ∃ x, p[slN w day A h]? = some x := ⟨_, List.getElem?_eq_getElem la⟩
            obtain ⟨y, hy⟩ : ∃ y, p[slN w day B h]? = some y := ⟨_, List.getElem?_eq_getElem lb⟩
            have hol := hP.1
            have hstep := psw_step hw (dn' := dnA day (h + 1)) hP (d1 := day) (s1 := A) (d2 := day) (s2 := B) (h0 := h) (by omega) (by omega) (by omega) (by omega) (by omega) rfl (swp_l A B) rfl (swp_r A B) hx hy (decide_eq_true (by omega)) (decide_eq_true (by omega)) (fun day' s' h' k1 k2 => by
              by_cases k3 : s' = A
              · left; unfold dnA; rw [decide_eq_decide]; omega
              · by_cases k4 : s' = B
                · left; unfold dnA; rw [decide_eq_decide]; omega
                · right; exact ⟨rfl, swp_o k3 k4⟩)
            have i1 : idxAt ⟨[Blk.live [encW w] 5, Blk.live [.agg [I64 A, I64 B]] 2, .live (o.map I64) 1], []⟩ rv (I64 (slN w day A h : Nat)) 1 = some (.ptr 2 (slN w day A h) 0) := by rw [hrv]; exact ix_ok (BL := [Blk.live [encW w] 5, Blk.live [.agg [I64 A, I64 B]] 2]) la
            have q1 : storeAt ⟨[Blk.live [encW w] 5, Blk.live [.agg [I64 A, I64 B]] 2, .live (o.map I64) 1], []⟩ (.ptr 2 (slN w day A h) 0) (I64 y) 1 = some ⟨[Blk.live [encW w] 5, Blk.live [.agg [I64 A, I64 B]] 2, .live ((o.set (slN w day A h) y).map I64) 1], []⟩ := st_ok (BL := [Blk.live [encW w] 5, Blk.live [.agg [I64 A, I64 B]] 2]) y (by omega)
            have i2 : idxAt ⟨[Blk.live [encW w] 5, Blk.live [.agg [I64 A, I64 B]] 2, .live ((o.set (slN w day A h) y).map I64) 1], []⟩ rv (I64 (slN w day B h : Nat)) 1 = some (.ptr 2 (slN w day B h) 0) := by rw [hrv]; exact ix_ok (BL := [Blk.live [encW w] 5, Blk.live [.agg [I64 A, I64 B]] 2]) lb
            have q2 : storeAt ⟨[Blk.live [encW w] 5, Blk.live [.agg [I64 A, I64 B]] 2, .live ((o.set (slN w day A h) y).map I64) 1], []⟩ (.ptr 2 (slN w day B h) 0) (I64 x) 1 = some ⟨[Blk.live [encW w] 5, Blk.live [.agg [I64 A, I64 B]] 2, .live (((o.set (slN w day A h) y).set (slN w day B h) x).map I64) 1], []⟩ := st_ok (BL := [Blk.live [encW w] 5, Blk.live [.agg [I64 A, I64 B]] 2]) x (by rw [List.length_set]; omega)
            generalize slN w day A h = sa at *
            generalize slN w day B h = sb at *
            simp only [go_sem, Nat.reduceEqDiff, Nat.reduceAdd, Nat.reduceLT, Nat.reduceLeDiff, reduceIte, g1, g3, g5, g7, g9, g11, g12, g13, WCells, WEta, FCells, FEta, DCells, DEta, cellsIs, solidIs, cellsFs, solidFs, cellsDs, solidDs, Bool.and_self, Is_len, Fs_len, Ds_len, true_and, snW, hotW, snD, hotD, snIs, hotIs, hhl, WB33, WVH_eq hSA, WVH_eq hSB, Is_idx _ hx, Is_idx _ hy, i1, q1, i2, q2, wrap_n1 h (by omega)]
            refine Nx_of (h + 1, r2, (o.set sa y).set sb x) (by simp) ?_
            simp only [go_sem, Nat.reduceEqDiff, Nat.reduceAdd, Nat.reduceLT, Nat.reduceLeDiff, reduceIte, g1, g3, g5, g7, g9, g11, g12]
            exact ⟨trivial, trivial, trivial, trivial, trivial, trivial, trivial, trivial, (by first | trivial | omega), hstep, trivial⟩
        have hdl := hdec2 day (by omega)
        have hO : OSw w id (swp A B) o p := psw_end hP fun day' s' h' h1 _ _ => decide_eq_true (by omega)
        have hKo := hKS id (swp A B) o hSw hO (fun d _ x h1 h2 => ⟨h1, h2⟩)
        have hol := hP.1
        have hsn : ∀ tk' q, snap ⟨[Blk.live [encW w] 5, Blk.live [.agg [I64 A, I64 B]] 2, .live (o.map I64) 1], tk'⟩ (q + 2) rv = encIs o := fun tk' q => by
          rw [hrv]; exact sn_ok (BL := [Blk.live [encW w] 5, Blk.live [.agg [I64 A, I64 B]] 2]) hol (by rintro rfl; simp at hol; exact hpn (List.length_eq_zero_iff.1 hol.symm)) q
        simp only [go_sem, Nat.reduceEqDiff, Nat.reduceAdd, Nat.reduceLT, Nat.reduceLeDiff, reduceIte, g1, g3, g5, g7, g9, g11, g12, WCells, WEta, FCells, FEta, DCells, DEta, cellsIs, solidIs, cellsFs, solidFs, cellsDs, solidDs, Bool.and_self, Is_len, Fs_len, Ds_len, true_and, snW, hotW, snD, hotD, snIs, hotIs, hdl, hsn, Ns_sn, Ns_hot, WB34, WVH_eq hKo, Bool.or_true]
  all_goals
    refine WL_inv (α := Nat × List Dl) (fun q e mm => e 1 = encIs p ∧ e 3 = .ptr 0 0 0 ∧ e 5 = .ptr 1 0 0 ∧ e 7 = encNs bad ∧ e 9 = I64 tk ∧ e 16 = I64 q.1 ∧ w.deals.drop q.1 = q.2 ∧ (∀ d ∈ w.deals.take q.1, d.fr = 0 ∧ d.to = w.days - 1) ∧ ∃ BL, mm = ⟨BL, []⟩ ∧ BL[0]? = some (Blk.live [encW w] 5) ∧ BL[1]? = some (Blk.live [.agg [I64 A, I64 B]] 2)) (fun q => q.2.length) (0, w.deals) ?_ ?_
    · simp only [go_sem, Nat.reduceEqDiff, Nat.reduceAdd, Nat.reduceLT, Nat.reduceLeDiff, reduceIte]
      (repeat' apply And.intro) <;> first | trivial | rfl | assumption | exact ⟨_, rfl, rfl, rfl⟩ | (intro d hd; simp at hd)
    rintro ⟨i, r⟩ e m ⟨g1, g3, g5, g7, g9, g16, hdr, hall, BL, rfl, B0, B1⟩
    dsimp only at g16 hdr hall
    have wd : IntKind.i64.wrap (w.days - 1) = w.days - 1 := wrap_i64 _ (by omega) (by omega)
    have hBl := (List.getElem?_eq_some_iff.1 B1).1
    rcases r with _ | ⟨d, r⟩
    rotate_left
    · obtain ⟨hk, hd2, hlt⟩ := drop_cons hdr
      cases x1 : (d.fr != 0)
      case true => simp only [go_sem, Nat.reduceEqDiff, Nat.reduceAdd, Nat.reduceLT, Nat.reduceLeDiff, reduceIte, g1, g3, g5, g7, g9, g16, WCells, WEta, FCells, FEta, DCells, DEta, cellsIs, solidIs, cellsFs, solidFs, cellsDs, solidDs, Bool.and_self, Is_len, Fs_len, Ds_len, true_and, snW, hotW, snD, hotD, snIs, hotIs, B0, dec_lt hlt, Ds_idx _ hk, x1, WB12, WVH_eq works_ok]
      cases x2 : (d.to != w.days - 1)
      case true => simp only [go_sem, Nat.reduceEqDiff, Nat.reduceAdd, Nat.reduceLT, Nat.reduceLeDiff, reduceIte, g1, g3, g5, g7, g9, g16, WCells, WEta, FCells, FEta, DCells, DEta, cellsIs, solidIs, cellsFs, solidFs, cellsDs, solidDs, Bool.and_self, Is_len, Fs_len, Ds_len, true_and, snW, hotW, snD, hotD, snIs, hotIs, B0, dec_lt hlt, Ds_idx _ hk, x1, x2, wd, WB12, WVH_eq works_ok]
      simp only [go_sem, Nat.reduceEqDiff, Nat.reduceAdd, Nat.reduceLT, Nat.reduceLeDiff, reduceIte, g1, g3, g5, g7, g9, g16, WCells, WEta, FCells, FEta, DCells, DEta, cellsIs, solidIs, cellsFs, solidFs, cellsDs, solidDs, Bool.and_self, Is_len, Fs_len, Ds_len, true_and, snW, hotW, snD, hotD, snIs, hotIs, B0, dec_lt hlt, Ds_idx _ hk, x1, x2, wd, wrap_n1 i (by omega)]
      refine Nx_of (i + 1, r) (by simp) ?_
      simp only [go_sem, Nat.reduceEqDiff, Nat.reduceAdd, Nat.reduceLT, Nat.reduceLeDiff, reduceIte, g1, g3, g5, g7, g9]
      refine ⟨trivial, trivial, trivial, trivial, trivial, trivial, hd2, fun d' hd' => ?_, _, rfl, B0, B1⟩
      rw [List.take_add_one, hk] at hd'
      rcases List.mem_append.1 hd' with hd' | hd'
      · exact hall d' hd'
      · simp at hd'
        subst hd'
        simp at x1 x2
        exact ⟨x1, x2⟩
    have hge := drop_nil hdr
    rw [List.take_of_length_le hge] at hall
    cases y1 : decide (w.days ≤ (A : Int))
    case true => simp only [go_sem, Nat.reduceEqDiff, Nat.reduceAdd, Nat.reduceLT, Nat.reduceLeDiff, reduceIte, g1, g3, g5, g7, g9, g16, WCells, WEta, FCells, FEta, DCells, DEta, cellsIs, solidIs, cellsFs, solidFs, cellsDs, solidDs, Bool.and_self, Is_len, Fs_len, Ds_len, true_and, snW, hotW, snD, hotD, snIs, hotIs, B0, B1, dec_ge hge, y1, WB12, WVH_eq works_ok]
    cases y2 : decide (w.days ≤ (B : Int))
    case true => simp only [go_sem, Nat.reduceEqDiff, Nat.reduceAdd, Nat.reduceLT, Nat.reduceLeDiff, reduceIte, g1, g3, g5, g7, g9, g16, WCells, WEta, FCells, FEta, DCells, DEta, cellsIs, solidIs, cellsFs, solidFs, cellsDs, solidDs, Bool.and_self, Is_len, Fs_len, Ds_len, true_and, snW, hotW, snD, hotD, snIs, hotIs, B0, B1, dec_ge hge, y1, y2, WB12, WVH_eq works_ok]
    have s3 := of_decide_eq_false y1
    have s4 := of_decide_eq_false y2
    have hSd : Sw w (swp A B) id := sw_days (by omega) (by omega)
    obtain ⟨ov, hcq, hov⟩ := cp_ok p hpn (by omega) BL []
    have oc : ov.cells = [ov] ∧ ov.solid = true ∧ ov.isAgg = false := by subst hov; exact ⟨rfl, rfl, rfl⟩
    obtain ⟨oc1, oc2, oc3⟩ := oc
    have C0 : ∀ z : Blk, (BL ++ [z])[0]? = some (Blk.live [encW w] 5) := fun z => by rw [List.getElem?_append_left (by omega)]; exact B0
    have C1 : ∀ z : Blk, (BL ++ [z])[1]? = some (Blk.live [.agg [I64 A, I64 B]] 2) := fun z => by rw [List.getElem?_append_left (by omega)]; exact B1
    simp only [go_sem, Nat.reduceEqDiff, Nat.reduceAdd, Nat.reduceLT, Nat.reduceLeDiff, reduceIte, g1, g3, g5, g7, g9, g16, WCells, WEta, FCells, FEta, DCells, DEta, cellsIs, solidIs, cellsFs, solidFs, cellsDs, solidDs, Bool.and_self, Is_len, Fs_len, Ds_len, true_and, snW, hotW, snD, hotD, snIs, hotIs, B0, B1, dec_ge hge, y1, y2, hcq, oc1, oc2, oc3]
    refine WL_inv (α := Nat × Nat × List Int) (fun q e mm => e 1 = encIs p ∧ e 3 = .ptr 0 0 0 ∧ e 5 = .ptr 1 0 0 ∧ e 7 = encNs bad ∧ e 9 = I64 tk ∧ e 17 = ov ∧ e 18 = I64 q.1 ∧ q.1 + q.2.1 = w.rooms.length ∧ PSw w (swp A B) id (dnB q.1 0) q.2.2 p ∧ mm = ⟨BL ++ [.live (q.2.2.map I64) 1], []⟩) (fun q => q.2.1) (0, w.rooms.length, p) ?_ ?_
    · simp only [go_sem, Nat.reduceEqDiff, Nat.reduceAdd, Nat.reduceLT, Nat.reduceLeDiff, reduceIte]
      (repeat' apply And.intro) <;> first | trivial | rfl | omega | assumption | exact psw_start p fun day s h => decide_eq_false (by omega)
    rintro ⟨s, r, o⟩ e m ⟨g1, g3, g5, g7, g9, g17, g18, hr, hP, rfl⟩
    dsimp only at g18 hr hP
    rcases r with _ | r
    rotate_left
    · have hdl : decide ((s : Int) < (w.rooms.length : Int)) = true := decide_eq_true (by omega)
      simp only [go_sem, Nat.reduceEqDiff, Nat.reduceAdd, Nat.reduceLT, Nat.reduceLeDiff, reduceIte, g1, g3, g5, g7, g9, g17, g18, WCells, WEta, FCells, FEta, DCells, DEta, cellsIs, solidIs, cellsFs, solidFs, cellsDs, solidDs, Bool.and_self, Is_len, Fs_len, Ds_len, true_and, snW, hotW, snD, hotD, snIs, hotIs, C0, C1, hdl]
      refine WL_inv (α := Nat × Nat × List Int) (fun q e mm => e 1 = encIs p ∧ e 3 = .ptr 0 0 0 ∧ e 5 = .ptr 1 0 0 ∧ e 7 = encNs bad ∧ e 9 = I64 tk ∧ e 17 = ov ∧ e 18 = I64 s ∧ e 19 = I64 q.1 ∧ q.1 + q.2.1 = w.hours.toNat ∧ PSw w (swp A B) id (dnB s q.1) q.2.2 p ∧ mm = ⟨BL ++ [.live (q.2.2.map I64) 1], []⟩) (fun q => q.2.1) (0, w.hours.toNat, o) ?_ ?_
      · simp only [go_sem, Nat.reduceEqDiff, Nat.reduceAdd, Nat.reduceLT, Nat.reduceLeDiff, reduceIte, g1, g3, g5, g7, g9, g17, g18]
        (repeat' apply And.intro) <;> first | trivial | rfl | omega | exact hP
      rintro ⟨h, r2, o⟩ e m ⟨g1, g3, g5, g7, g9, g17, g18, g19, hr2, hP, rfl⟩
      dsimp only at g19 hr2 hP
      cases r2 with
      | zero =>
        have hhl := hde4 h (by omega)
        simp only [go_sem, Nat.reduceEqDiff, Nat.reduceAdd, Nat.reduceLT, Nat.reduceLeDiff, reduceIte, g1, g3, g5, g7, g9, g17, g18, g19, WCells, WEta, FCells, FEta, DCells, DEta, cellsIs, solidIs, cellsFs, solidFs, cellsDs, solidDs, Bool.and_self, Is_len, Fs_len, Ds_len, true_and, snW, hotW, snD, hotD, snIs, hotIs, C0, C1, hhl, wrap_n1 s (by omega)]
        refine Nx_of (s + 1, r, o) (by simp) ?_
        simp only [go_sem, Nat.reduceEqDiff, Nat.reduceAdd, Nat.reduceLT, Nat.reduceLeDiff, reduceIte, g1, g3, g5, g7, g9, g17]
        refine ⟨trivial, trivial, trivial, trivial, trivial, trivial, trivial, (by first | trivial | omega), psw_congr hP fun day' s' h' _ _ h3 => ?_, trivial⟩
        unfold dnB
        rw [decide_eq_decide]; omega
      | succ r2 =>
        have hhl := hde3 h (by omega)
        have hSA := hSl A s h (by omega) (by omega) (by omega)
        have hSB := hSl B s h (by omega) (by omega) (by omega)
        have la : slN w A s h < p.length := by have := slN_lts hw (day := A) (s := s) (h := h) (by omega) (by omega) (by omega); omega
        have lb : slN w B s h < p.length := by have := slN_lts hw (day := B) (s := s) (h := h) (by omega) (by omega) (by omega); omega
        obtain ⟨x, hx⟩ : ∃ x, p[slN w A s h]? = some x := ⟨_, List.getElem?_eq_getElem la⟩
        obtain ⟨y, hy⟩ : ∃ y, p[slN w B s h]? = some y := ⟨_, List.getElem?_eq_getElem lb⟩
        have hol := hP.1
        have hstep := psw_step hw (dn' := dnB s (h + 1)) hP (d1 := A) (s1 := s) (d2 := B) (s2 := s) (h0 := h) (by omega) (by omega) (by omega) (by omega) (by omega) (swp_l A B) rfl (swp_r A B) rfl hx hy (decide_eq_true (by omega)) (decide_eq_true (by omega)) (fun day' s' h' k1 k2 => by
          by_cases k3 : day' = A
          · left; unfold dnB; rw [decide_eq_decide]; omega
          · by_cases k4 : day' = B
            · left; unfold dnB; rw [decide_eq_decide]; omega
            · right; exact ⟨swp_o k3 k4, rfl⟩)
        have i1 : idxAt ⟨BL ++ [.live (o.map I64) 1], []⟩ ov (I64 (slN w A s h : Nat)) 1 = some (.ptr BL.length (slN w A s h) 0) := by rw [hov]; exact ix_ok la
        have q1 : storeAt ⟨BL ++ [.live (o.map I64) 1], []⟩ (.ptr BL.length (slN w A s h) 0) (I64 y) 1 = some ⟨BL ++ [.live ((o.set (slN w A s h) y).map I64) 1], []⟩ := st_ok y (by omega)
        have i2 : idxAt ⟨BL ++ [.live ((o.set (slN w A s h) y).map I64) 1], []⟩ ov (I64 (slN w B s h : Nat)) 1 = some (.ptr BL.length (slN w B s h) 0) := by rw [hov]; exact ix_ok lb
        have q2 : storeAt ⟨BL ++ [.live ((o.set (slN w A s h) y).map I64) 1], []⟩ (.ptr BL.length (slN w B s h) 0) (I64 x) 1 = some ⟨BL ++ [.live (((o.set (slN w A s h) y).set (slN w B s h) x).map I64) 1], []⟩ := st_ok x (by rw [List.length_set]; omega)
        generalize slN w A s h = sa at *
        generalize slN w B s h = sb at *
        simp only [go_sem, Nat.reduceEqDiff, Nat.reduceAdd, Nat.reduceLT, Nat.reduceLeDiff, reduceIte, g1, g3, g5, g7, g9, g17, g18, g19, WCells, WEta, FCells, FEta, DCells, DEta, cellsIs, solidIs, cellsFs, solidFs, cellsDs, solidDs, Bool.and_self, Is_len, Fs_len, Ds_len, true_and, snW, hotW, snD, hotD, snIs, hotIs, C0, C1, hhl, WB33, WVH_eq hSA, WVH_eq hSB, Is_idx _ hx, Is_idx _ hy, i1, q1, i2, q2, wrap_n1 h (by omega)]
        refine Nx_of (h + 1, r2, (o.set sa y).set sb x) (by simp) ?_
        simp only [go_sem, Nat.reduceEqDiff, Nat.reduceAdd, Nat.reduceLT, Nat.reduceLeDiff, reduceIte, g1, g3, g5, g7, g9, g17, g18]
        exact ⟨trivial, trivial, trivial, trivial, trivial, trivial, trivial, trivial, (by first | trivial | omega), hstep, trivial⟩
    have hdl : decide ((s : Int) < (w.rooms.length : Int)) = false := decide_eq_false (by omega)
    have hO : OSw w (swp A B) id o p := psw_end hP fun day' s' h' _ h2 _ => decide_eq_true (by omega)
    have hKo := hKS (swp A B) id o hSd hO (fun d hd x h1 h2 => by
      obtain ⟨k1, k2⟩ := hall d hd
      have := (hSd.d x (by omega)).1
      exact ⟨by omega, by omega⟩)
    have hol := hP.1
    have hsn : ∀ tk' q, snap ⟨BL ++ [.live (o.map I64) 1], tk'⟩ (q + 2) ov = encIs o := fun tk' q => by
      rw [hov]; exact sn_ok hol (by rintro rfl; simp at hol; exact hpn (List.length_eq_zero_iff.1 hol.symm)) q
    simp only [go_sem, Nat.reduceEqDiff, Nat.reduceAdd, Nat.reduceLT, Nat.reduceLeDiff, reduceIte, g1, g3, g5, g7, g9, g17, g18, WCells, WEta, FCells, FEta, DCells, DEta, cellsIs, solidIs, cellsFs, solidFs, cellsDs, solidDs, Bool.and_self, Is_len, Fs_len, Ds_len, true_and, snW, hotW, snD, hotD, snIs, hotIs, C0, C1, hdl, hsn, Ns_sn, Ns_hot, WB34, WVH_eq hKo, Bool.or_true, WB12, WVH_eq works_ok]
end Go.Ab.T
end
