/-
  A part of the proofs over this seat.
  (The texts KcM1 KcM2 KcM3, one behind the other.)
-/
import Derived.Test.YtaenhjnmmdaokaaA0
set_option linter.unusedSimpArgs false
set_option linter.unusedVariables false
set_option linter.unusedSectionVars false
section
namespace Go.Ab.T
structure Ctr where
  so : List Int
  fi : Int
  la : Int
  vo : Int
  fl : Int
  ca : Int
structure Ev where
  pr : List Int
  se : List Int
  st : List Int
  cs : List Ctr
structure V3 where
  x : Int
  y : Int
  z : Int
deriving DecidableEq
structure Ch where
  t : V3
  f : Int
  m : Int
def inR (n lo hi : Int) : Bool := decide (lo ≤ n) && decide (n ≤ hi)
theorem inR_iff {n lo hi : Int} : inR n lo hi = true ↔ lo ≤ n ∧ n ≤ hi := by unfold inR; simp
def allR (l : List Int) (lo hi : Int) : Bool := l.all fun n => inR n lo hi
theorem allR_iff {l : List Int} {lo hi : Int} : allR l lo hi = true ↔ ∀ n ∈ l, lo ≤ n ∧ n ≤ hi := by
  unfold allR
  rw [List.all_eq_true]
  exact ⟨fun h n hn => inR_iff.1 (h n hn), fun h n hn => inR_iff.2 (h n hn)⟩
def roll (c : Ctr) : Int := c.la - c.fi - c.vo
def ctrOK (n : Int) (c : Ctr) : Bool := ((c.so.length : Int) == n) && (allR c.so 0 20 && (allR [c.fi, c.la, c.fl, c.ca] 0 9999 && (inR c.vo 0 20 && inR (roll c) 0 20)))
def evOK (v : Ev) : Bool := inR v.pr.length 1 3 && (((v.se.length : Int) == v.pr.length) && (((v.st.length : Int) == v.pr.length) && (allR v.pr 1 50 && (allR v.se 0 80 && (allR v.st 0 80 && (inR v.cs.length 1 4 && v.cs.all (ctrOK v.pr.length)))))))
def bigC (c : Ctr) : Bool := decide ((30 : Int) < c.so.length)
def bigB (v : Ev) : Bool := decide ((30 : Int) < v.pr.length) || (decide ((30 : Int) < v.se.length) || (decide ((30 : Int) < v.st.length) || decide ((30 : Int) < v.cs.length)))
def farB (v : Ev) : Bool := bigB v || (v.cs.any bigC || (evOK v && (v.cs.any (fun c => decide (7 < roll c)) || decide ((3 : Int) < v.cs.length))))
structure CO (n : Nat) (c : Ctr) : Prop where
  len : c.so.length = n
  so : ∀ s ∈ c.so, 0 ≤ s ∧ s ≤ 20
  fi : 0 ≤ c.fi ∧ c.fi ≤ 9999
  la : 0 ≤ c.la ∧ c.la ≤ 9999
  fl : 0 ≤ c.fl ∧ c.fl ≤ 9999
  ca : 0 ≤ c.ca ∧ c.ca ≤ 9999
  vo : 0 ≤ c.vo ∧ c.vo ≤ 20
  ro : 0 ≤ roll c ∧ roll c ≤ 20
theorem CO_of {n : Nat} {c : Ctr} : ctrOK n c = true ↔ CO n c := by
  unfold ctrOK
  simp only [Bool.and_eq_true, decide_eq_true_eq, beq_iff_eq, allR_iff, inR_iff, List.mem_cons, List.not_mem_nil, or_false, forall_eq_or_imp, forall_eq]
  constructor
  · rintro ⟨h1, h2, ⟨h3, h4, h5, h6⟩, h7, h8⟩
    exact ⟨by omega, h2, h3, h4, h5, h6, h7, h8⟩
  · rintro ⟨h1, h2, h3, h4, h5, h6, h7, h8⟩
    exact ⟨by omega, h2, ⟨h3, h4, h5, h6⟩, h7, h8⟩
/-- A valid evening. -/
structure EV4 (v : Ev) : Prop where
  k1 : 1 ≤ v.pr.length
  k3 : v.pr.length ≤ 3
  sl : v.se.length = v.pr.length
  tl : v.st.length = v.pr.length
  pr : ∀ n ∈ v.pr, 1 ≤ n ∧ n ≤ 50
  se : ∀ n ∈ v.se, 0 ≤ n ∧ n ≤ 80
  st : ∀ n ∈ v.st, 0 ≤ n ∧ n ≤ 80
  n1 : 1 ≤ v.cs.length
  n4 : v.cs.length ≤ 4
  cs : ∀ c ∈ v.cs, CO v.pr.length c
theorem EV4_of {v : Ev} : evOK v = true ↔ EV4 v := by
  unfold evOK
  simp only [Bool.and_eq_true, decide_eq_true_eq, beq_iff_eq, allR_iff, inR_iff, List.all_eq_true]
  constructor
  · rintro ⟨⟨h1, h2⟩, h3, h4, h5, h6, h7, ⟨h8, h9⟩, h10⟩
    exact ⟨by omega, by omega, by omega, by omega, h5, h6, h7, by omega, by omega, fun c hc => CO_of.1 (h10 c hc)⟩
  · rintro ⟨h1, h2, h3, h4, h5, h6, h7, h8, h9, h10⟩
    exact ⟨⟨by omega, by omega⟩, by omega, by omega, h5, h6, h7, ⟨by omega, by omega⟩, fun c hc => CO_of.2 (h10 c hc)⟩
structure EV (v : Ev) : Prop extends EV4 v where
  n3 : v.cs.length ≤ 3
  r7 : ∀ c ∈ v.cs, roll c ≤ 7
theorem EV_of {v : Ev} (h1 : farB v = false) (h2 : evOK v = true) : EV v := by
  unfold farB at h1
  rw [h2] at h1
  simp only [Bool.or_eq_false_iff, Bool.true_and, decide_eq_false_iff_not, List.any_eq_false, decide_eq_true_eq] at h1
  obtain ⟨_, _, h3, h4⟩ := h1
  exact { EV4_of.1 h2 with n3 := by omega, r7 := fun c hc => by have := h3 c hc; omega }
/-! ### Rows of three -/
def toV (l : List Int) : V3 := ⟨l.getD 0 0, l.getD 1 0, l.getD 2 0⟩
def fromV (k : Nat) (t : V3) : List Int := [t.x, t.y, t.z].take k
def V3.add (a b : V3) : V3 := ⟨a.x + b.x, a.y + b.y, a.z + b.z⟩
def V3.sub (a b : V3) : V3 := ⟨a.x - b.x, a.y - b.y, a.z - b.z⟩
def V3.sum (a : V3) : Int := a.x + a.y + a.z
def V3.dot (a p : V3) : Int := a.x * p.x + a.y * p.y + a.z * p.z
def V3.zero : V3 := ⟨0, 0, 0⟩
def V3.nn (a : V3) : Prop := 0 ≤ a.x ∧ 0 ≤ a.y ∧ 0 ≤ a.z
def V3.le (a b : V3) : Prop := a.x ≤ b.x ∧ a.y ≤ b.y ∧ a.z ≤ b.z
theorem V3.ext' {a b : V3} (h1 : a.x = b.x) (h2 : a.y = b.y) (h3 : a.z = b.z) : a = b := by cases a; cases b; simp at h1 h2 h3; simp [h1, h2, h3]
theorem V3.add_sub (a b : V3) : (a.sub b).add b = a := V3.ext' (by simp [V3.add, V3.sub]) (by simp [V3.add, V3.sub]) (by simp [V3.add, V3.sub])
theorem V3.sub_sub (a b : V3) : a.sub (a.sub b) = b := V3.ext' (by simp only [V3.sub]; omega) (by simp only [V3.sub]; omega) (by simp only [V3.sub]; omega)
theorem V3.sub_comm (a b c : V3) : (a.sub b).sub c = (a.sub c).sub b := V3.ext' (by simp only [V3.sub]; omega) (by simp only [V3.sub]; omega) (by simp only [V3.sub]; omega)
/-- Zero behind so many. -/
def V3.wid (k : Nat) (t : V3) : Prop := (k ≤ 0 → t.x = 0) ∧ (k ≤ 1 → t.y = 0) ∧ (k ≤ 2 → t.z = 0)
theorem toV_wid (l : List Int) : (toV l).wid l.length := by
  refine ⟨fun h => ?_, fun h => ?_, fun h => ?_⟩ <;> simp only [toV] <;> rw [List.getD_eq_getElem?_getD, List.getElem?_eq_none (by omega)] <;> rfl
theorem fromV_toV {k : Nat} {l : List Int} (h : l.length = k) (hk : k ≤ 3) : fromV k (toV l) = l := by
  subst h
  match l, hk with
  | [], _ => rfl
  | [a], _ => rfl
  | [a, b], _ => rfl
  | [a, b, c], _ => rfl
  | _ :: _ :: _ :: _ :: _, h => simp at h
theorem toV_fromV {k : Nat} {t : V3} (h : t.wid k) : toV (fromV k t) = t := by
  obtain ⟨x, y, z⟩ := t
  obtain ⟨h1, h2, h3⟩ := h
  match k with
  | 0 => simp only at h1 h2 h3; simp [fromV, toV, h1, h2, h3]
  | 1 => simp only at h1 h2 h3; simp [fromV, toV, h2, h3]
  | 2 => simp only at h1 h2 h3; simp [fromV, toV, h3]
  | k + 3 => simp [fromV, toV]
theorem fromV_len {k : Nat} (hk : k ≤ 3) (t : V3) : (fromV k t).length = k := by unfold fromV; rw [List.length_take]; simp; omega
theorem fromV_sum {k : Nat} {t : V3} (h : t.wid k) : (fromV k t).sum = t.sum := by
  obtain ⟨x, y, z⟩ := t
  obtain ⟨h1, h2, h3⟩ := h
  match k with
  | 0 => simp only at h1 h2 h3; simp [fromV, V3.sum, h1, h2, h3]
  | 1 => simp only at h1 h2 h3; simp [fromV, V3.sum, h2, h3]
  | 2 => simp only at h1 h2 h3; simp [fromV, V3.sum, h3]
  | k + 3 => simp [fromV, V3.sum]; omega
theorem toV_bd {l : List Int} {lo hi : Int} (h : ∀ n ∈ l, lo ≤ n ∧ n ≤ hi) (h0 : lo ≤ 0) (h1 : 0 ≤ hi) : ((lo ≤ (toV l).x ∧ (toV l).x ≤ hi) ∧ (lo ≤ (toV l).y ∧ (toV l).y ≤ hi)) ∧ (lo ≤ (toV l).z ∧ (toV l).z ≤ hi) := by
  have f : ∀ i, lo ≤ l.getD i 0 ∧ l.getD i 0 ≤ hi := fun i => by
    rw [List.getD_eq_getElem?_getD]
    cases hi' : l[i]? with
    | none => exact ⟨h0, h1⟩
    | some a => exact h a (List.mem_of_getElem? hi')
  exact ⟨⟨f 0, f 1⟩, f 2⟩
/-! ### Ways to sell -/
def rg (n : Int) : List Int := (List.range (n + 1).toNat).map fun k : Nat => (k : Int)
theorem mem_rg {n a : Int} : a ∈ rg n ↔ 0 ≤ a ∧ a ≤ n := by
  unfold rg
  rw [List.mem_map]
  constructor
  · rintro ⟨k, hk, rfl⟩; rw [List.mem_range] at hk; omega
  · rintro ⟨h1, h2⟩; exact ⟨a.toNat, by rw [List.mem_range]; omega, by omega⟩
def sp3 (t : V3) (left : Int) : List V3 := if left = 0 then [t] else []
def sp2 (s t : V3) (left : Int) : List V3 := (rg (min left s.z)).flatMap fun n => sp3 ⟨t.x, t.y, n⟩ (left - n)
def sp1 (s t : V3) (left : Int) : List V3 := (rg (min left s.y)).flatMap fun n => sp2 s ⟨t.x, n, t.z⟩ (left - n)
def sp0 (s t : V3) (left : Int) : List V3 := (rg (min left s.x)).flatMap fun n => sp1 s ⟨n, t.y, t.z⟩ (left - n)
def spl (n : Int) (s : V3) : List V3 := sp0 s V3.zero n
theorem mem_spl {n : Int} {s t : V3} : t ∈ spl n s ↔ (t.nn ∧ t.le s) ∧ t.sum = n := by
  unfold spl sp0 sp1 sp2 sp3 V3.nn V3.le V3.sum
  simp only [List.mem_flatMap, mem_rg]
  constructor
  · rintro ⟨a, ⟨ha0, ha1⟩, b, ⟨hb0, hb1⟩, c, ⟨hc0, hc1⟩, hm⟩
    split at hm
    · simp only [List.mem_singleton] at hm
      subst hm
      simp only
      omega
    · simp at hm
  · obtain ⟨x, y, z⟩ := t
    simp only
    intro h
    refine ⟨x, by omega, y, by omega, z, by omega, ?_⟩
    rw [if_pos (by omega)]
    simp
def miss (p : V3) (c : Ctr) (t : V3) : Int := c.fl + t.dot p - c.ca
def flw (p : V3) (c : Ctr) (t : V3) : Int := (if t = toV c.so then 0 else 1) + (if miss p c t = 0 then 0 else 1)
theorem flw_bd (p : V3) (c : Ctr) (t : V3) : 0 ≤ flw p c t ∧ flw p c t ≤ 2 := by unfold flw; split <;> split <;> omega
def mkc (p : V3) (c : Ctr) (t : V3) : Ch := ⟨t, flw p c t, miss p c t⟩
def chs (p s : V3) (c : Ctr) : List Ch := (spl (roll c) s).map (mkc p c)
/-! ### Truths -/
def IsT : V3 → List Ctr → List V3 → Prop
  | s, [], [] => s = V3.zero
  | s, c :: cs, t :: ts => (t.nn ∧ t.sum = roll c) ∧ IsT (s.sub t) cs ts
  | _, _, _ => False
def flT (p : V3) : List Ctr → List V3 → Int
  | c :: cs, t :: ts => flw p c t + flT p cs ts
  | _, _ => 0
theorem flT_bd (p : V3) : ∀ (cs : List Ctr) (ts : List V3), 0 ≤ flT p cs ts ∧ flT p cs ts ≤ 2 * cs.length
  | [], _ => by simp [flT]
  | _ :: _, [] => by simp [flT]; omega
  | c :: cs, t :: ts => by
    have h1 := flw_bd p c t
    have h2 := flT_bd p cs ts
    simp only [flT, List.length_cons]; omega
theorem IsT_len : ∀ {s : V3} {cs : List Ctr} {ts : List V3}, IsT s cs ts → ts.length = cs.length
  | _, [], [], _ => rfl
  | _, _ :: _, _ :: _, h => by simp [IsT_len h.2]
  | _, [], _ :: _, h => h.elim
  | _, _ :: _, [], h => h.elim
theorem IsT_nn : ∀ {s : V3} {cs : List Ctr} {ts : List V3}, IsT s cs ts → s.nn ∧ ∀ t ∈ ts, t.nn ∧ t.le s
  | _, [], [], h => by
    cases h
    exact ⟨⟨by decide, by decide, by decide⟩, fun t ht => by cases ht⟩
  | s, c :: cs, t :: ts, h => by
    obtain ⟨⟨h1, _⟩, h2⟩ := h
    obtain ⟨h3, h4⟩ := IsT_nn h2
    simp only [V3.nn, V3.le, V3.sub] at h1 h3 h4 ⊢
    refine ⟨by omega, fun u hu => ?_⟩
    rcases List.mem_cons.1 hu with rfl | hu
    · omega
    · have := h4 u hu; omega
  | _, [], _ :: _, h => h.elim
  | _, _ :: _, [], h => h.elim
def rolls : List Ctr → Int
  | [] => 0
  | c :: cs => roll c + rolls cs
theorem IsT_sum : ∀ {s : V3} {cs : List Ctr} {ts : List V3}, IsT s cs ts → s.sum = rolls cs
  | _, [], [], h => by cases h; rfl
  | s, c :: cs, t :: ts, h => by
    have := IsT_sum h.2
    have h1 := h.1.2
    simp only [V3.sum, V3.sub, rolls] at this h1 ⊢
    omega
  | _, [], _ :: _, h => h.elim
  | _, _ :: _, [], h => h.elim
/-- If all rolls are together the seats, there is a truth. -/
theorem IsT_ex : ∀ {s : V3} {cs : List Ctr}, s.nn → (∀ c ∈ cs, 0 ≤ roll c) → s.sum = rolls cs → ∃ ts, IsT s cs ts
  | s, [], h, _, h1 => by
    refine ⟨[], ?_⟩
    simp only [V3.nn, V3.sum, rolls] at h h1
    exact V3.ext' (show s.x = 0 by omega) (show s.y = 0 by omega) (show s.z = 0 by omega)
  | s, c :: cs, h, h0, h1 => by
    have hc := h0 c (by simp)
    have hr : 0 ≤ rolls cs := by
      have : ∀ l : List Ctr, (∀ c ∈ l, 0 ≤ roll c) → 0 ≤ rolls l := by
        intro l
        induction l with
        | nil => intro _; exact Int.le_refl _
        | cons a l ih => intro hl; have := ih fun c hc => hl c (by simp [hc]); have := hl a (by simp); simp only [rolls]; omega
      exact this cs fun c hc => h0 c (by simp [hc])
    simp only [V3.nn, V3.sum, rolls] at h h1
    obtain ⟨t, ht1, ht2⟩ : ∃ t : V3, (t.nn ∧ t.le s) ∧ t.sum = roll c := by
      simp only [V3.nn, V3.le, V3.sum]
      by_cases hx : roll c ≤ s.x
      · exact ⟨⟨roll c, 0, 0⟩, by simp only; omega, by simp only; omega⟩
      by_cases hy : roll c ≤ s.x + s.y
      · exact ⟨⟨s.x, roll c - s.x, 0⟩, by simp only; omega, by simp only; omega⟩
      · exact ⟨⟨s.x, s.y, roll c - s.x - s.y⟩, by simp only; omega, by simp only; omega⟩
    simp only [V3.nn, V3.le, V3.sum] at ht1 ht2
    obtain ⟨ts, hts⟩ := IsT_ex (s := s.sub t) (cs := cs) (by simp only [V3.nn, V3.sub]; omega) (fun c hc => h0 c (by simp [hc])) (by simp only [V3.sum, V3.sub]; omega)
    exact ⟨t :: ts, ⟨⟨ht1.1, ht2⟩, hts⟩⟩
theorem IsT_snoc : ∀ {s : V3} {cs : List Ctr} {c : Ctr} {ts : List V3}, IsT s (cs ++ [c]) ts ↔ ∃ us t, ts = us ++ [t] ∧ (t.nn ∧ t.sum = roll c) ∧ IsT (s.sub t) cs us
  | s, [], c, ts => by
    constructor
    · intro h
      match ts, h with
      | [t], h => exact ⟨[], t, rfl, h.1, h.2⟩
      | [], h => exact h.elim
      | _ :: _ :: _, h => exact h.2.elim
    · rintro ⟨us, t, rfl, h1, h2⟩
      match us, h2 with
      | [], h2 => exact ⟨h1, h2⟩
      | _ :: _, h2 => exact h2.elim
  | s, d :: cs, c, [] => by
    constructor
    · intro h; exact h.elim
    · rintro ⟨us, t, h, _⟩; simp at h
  | s, d :: cs, c, u :: ts => by
    constructor
    · rintro ⟨h1, h2⟩
      obtain ⟨us, t, rfl, h3, h4⟩ := IsT_snoc.1 h2
      exact ⟨u :: us, t, rfl, h3, h1, by rw [V3.sub_comm]; exact h4⟩
    · rintro ⟨us, t, he, h3, h4⟩
      match us, he, h4 with
      | [], he, h4 => exact h4.elim
      | w :: us, he, h4 =>
        simp only [List.cons_append, List.cons.injEq] at he
        obtain ⟨rfl, rfl⟩ := he
        exact ⟨h4.1, IsT_snoc.2 ⟨us, t, rfl, h3, by rw [V3.sub_comm]; exact h4.2⟩⟩
theorem flT_snoc (p : V3) : ∀ {cs : List Ctr} {us : List V3} (c : Ctr) (t : V3), us.length = cs.length → flT p (cs ++ [c]) (us ++ [t]) = flT p cs us + flw p c t
  | [], [], c, t, _ => by simp [flT]
  | d :: cs, u :: us, c, t, h => by
    have := flT_snoc p (cs := cs) (us := us) c t (by simpa using h)
    simp only [List.cons_append, flT, this]; omega
  | [], _ :: _, _, _, h => by simp at h
  | _ :: _, [], _, _, h => by simp at h
/-- One till apart from the others. -/
theorem IsT_erase : ∀ {i : Nat} {s : V3} {cs : List Ctr} {c : Ctr} {ts : List V3}, cs[i]? = some c → IsT s cs ts → ∃ t, ts[i]? = some t ∧ (t.nn ∧ t.sum = roll c) ∧ IsT (s.sub t) (cs.eraseIdx i) (ts.eraseIdx i)
  | 0, s, d :: cs, c, u :: ts, h, k => by
    simp at h; subst h
    exact ⟨u, rfl, k.1, k.2⟩
  | i + 1, s, d :: cs, c, u :: ts, h, k => by
    obtain ⟨t, h1, h2, h3⟩ := IsT_erase (i := i) (by simpa using h) k.2
    exact ⟨t, by simpa using h1, h2, k.1, by rw [V3.sub_comm]; exact h3⟩
  | _, _, [], _, _, h, _ => by simp at h
  | _, _, _ :: _, _, [], _, k => k.elim
theorem IsT_insert : ∀ {i : Nat} {s : V3} {cs : List Ctr} {c : Ctr} {us : List V3} {t : V3}, cs[i]? = some c → (t.nn ∧ t.sum = roll c) → IsT (s.sub t) (cs.eraseIdx i) us → ∃ ts, IsT s cs ts ∧ ts[i]? = some t ∧ ts.eraseIdx i = us
  | 0, s, d :: cs, c, us, t, h, h1, h2 => by
    simp at h; subst h
    exact ⟨t :: us, ⟨h1, h2⟩, rfl, rfl⟩
  | i + 1, s, d :: cs, c, us, t, h, h1, h2 => by
    match us, h2 with
    | [], h2 => exact h2.elim
    | u :: us, h2 =>
      obtain ⟨ts, h3, h4, h5⟩ := IsT_insert (i := i) (s := s.sub u) (by simpa using h) h1 (by rw [V3.sub_comm]; exact h2.2)
      exact ⟨u :: ts, ⟨h2.1, h3⟩, by simpa using h4, by simp [h5]⟩
  | _, _, [], _, _, _, h, _, _ => by simp at h
theorem flT_erase (p : V3) : ∀ {i : Nat} {cs : List Ctr} {c : Ctr} {ts : List V3} {t : V3}, cs[i]? = some c → ts[i]? = some t → flT p cs ts = flw p c t + flT p (cs.eraseIdx i) (ts.eraseIdx i)
  | 0, d :: cs, c, u :: ts, t, h, k => by
    simp at h k; subst h; subst k; rfl
  | i + 1, d :: cs, c, u :: ts, t, h, k => by
    have := flT_erase p (i := i) (cs := cs) (ts := ts) (c := c) (t := t) (by simpa using h) (by simpa using k)
    simp only [List.eraseIdx_cons_succ, flT, this]; omega
  | _, [], _, _, _, h, _ => by simp at h
  | _, _ :: _, _, [], _, _, k => by simp at k
end Go.Ab.T
end

section
namespace Go.Ab.T
/-! ### Rows of entries in their keys' order -/
def V3.lt (a b : V3) : Bool := decide (a.x < b.x) || (a.x == b.x && (decide (a.y < b.y) || (a.y == b.y && decide (a.z < b.z))))
theorem V3.lt_iff {a b : V3} : a.lt b = true ↔ a.x < b.x ∨ (a.x = b.x ∧ (a.y < b.y ∨ (a.y = b.y ∧ a.z < b.z))) := by
  unfold V3.lt; simp
theorem V3.lt_irrefl (a : V3) : a.lt a = false := by
  cases h : a.lt a with
  | false => rfl
  | true => rw [V3.lt_iff] at h; omega
theorem V3.lt_trans {a b c : V3} (h1 : a.lt b = true) (h2 : b.lt c = true) : a.lt c = true := by
  rw [V3.lt_iff] at *; omega
theorem V3.lt_tri {a b : V3} (h1 : a.lt b = false) (h2 : a ≠ b) : b.lt a = true := by
  rw [V3.lt_iff]
  have h3 : ¬(a.x < b.x ∨ (a.x = b.x ∧ (a.y < b.y ∨ (a.y = b.y ∧ a.z < b.z)))) := fun h => by rw [← V3.lt_iff, h1] at h; cases h
  have h4 : ¬(a.x = b.x ∧ a.y = b.y ∧ a.z = b.z) := fun ⟨p, q, r⟩ => h2 (V3.ext' p q r)
  omega
abbrev WM := List (V3 × Int)
def Srt (w : WM) : Prop := w.Pairwise fun a b => a.1.lt b.1 = true
def lk : WM → V3 → Option Int
  | [], _ => none
  | p :: r, k => if k = p.1 then some p.2 else lk r k
def wput (k : V3) (m : Int) : WM → WM
  | [] => [(k, m)]
  | p :: r => if k = p.1 then (k, m) :: r else if k.lt p.1 = true then (k, m) :: p :: r else p :: wput k m r
theorem lk_wput (w : WM) (k : V3) (m : Int) (j : V3) : lk (wput k m w) j = if j = k then some m else lk w j := by
  induction w with
  | nil => simp only [wput, lk]
  | cons p r ih =>
    simp only [wput]
    by_cases h : k = p.1
    · rw [if_pos h]
      simp only [lk]
      by_cases hj : j = k
      · rw [if_pos hj, if_pos hj]
      · rw [if_neg hj, if_neg hj, if_neg (by rw [← h]; exact hj)]
    · rw [if_neg h]
      split
      · simp only [lk]
      · simp only [lk, ih]
        by_cases hj : j = k
        · rw [if_pos hj, if_pos hj, if_neg (by rw [hj]; exact h)]
        · rw [if_neg hj, if_neg hj]
theorem wput_mem {w : WM} {k : V3} {m : Int} {p : V3 × Int} (h : p ∈ wput k m w) : p = (k, m) ∨ p ∈ w := by
  induction w with
  | nil => simp only [wput, List.mem_singleton] at h; exact .inl h
  | cons q r ih =>
    simp only [wput] at h
    split at h
    · rcases List.mem_cons.1 h with h | h
      · exact .inl h
      · exact .inr (List.mem_cons_of_mem _ h)
    · split at h
      · rcases List.mem_cons.1 h with h | h
        · exact .inl h
        · exact .inr h
      · rcases List.mem_cons.1 h with h | h
        · exact .inr (by rw [h]; simp)
        · exact (ih h).imp id fun h => List.mem_cons_of_mem _ h
theorem wput_srt {w : WM} (hs : Srt w) (k : V3) (m : Int) : Srt (wput k m w) := by
  induction w with
  | nil => simp only [wput]; exact List.pairwise_singleton _ _
  | cons p r ih =>
    obtain ⟨h1, h2⟩ := List.pairwise_cons.1 hs
    simp only [wput]
    split
    · rename_i h
      subst h
      exact List.pairwise_cons.2 ⟨h1, h2⟩
    · rename_i hne
      split
      · rename_i hlt
        refine List.pairwise_cons.2 ⟨fun q hq => ?_, hs⟩
        rcases List.mem_cons.1 hq with rfl | hq
        · exact hlt
        · exact V3.lt_trans hlt (h1 q hq)
      · rename_i hlt
        refine List.pairwise_cons.2 ⟨fun q hq => ?_, ih h2⟩
        rcases wput_mem hq with rfl | hq
        · exact V3.lt_tri (by simpa using hlt) hne
        · exact h1 q hq
theorem lk_mem {w : WM} {k : V3} {m : Int} (h : lk w k = some m) : (k, m) ∈ w := by
  induction w with
  | nil => cases h
  | cons p r ih =>
    simp only [lk] at h
    split at h
    · rename_i hk; cases h; subst hk; exact List.mem_cons_self
    · exact List.mem_cons_of_mem _ (ih h)
theorem mem_lk {w : WM} (hs : Srt w) {k : V3} {m : Int} (h : (k, m) ∈ w) : lk w k = some m := by
  induction w with
  | nil => cases h
  | cons p r ih =>
    obtain ⟨h1, h2⟩ := List.pairwise_cons.1 hs
    simp only [lk]
    rcases List.mem_cons.1 h with rfl | h
    · rw [if_pos rfl]
    · have := h1 _ h
      rw [if_neg, ih h2 h]
      rintro rfl
      rw [V3.lt_irrefl] at this; cases this
/-- Rows in order that say the same are the same. -/
theorem srt_ext : ∀ {w w' : WM}, Srt w → Srt w' → (∀ k, lk w k = lk w' k) → w = w'
  | [], [], _, _, _ => rfl
  | [], p :: r, _, _, h => by have := h p.1; simp [lk] at this
  | p :: r, [], _, _, h => by have := h p.1; simp [lk] at this
  | p :: r, q :: s, h1, h2, h => by
    obtain ⟨a1, a2⟩ := List.pairwise_cons.1 h1
    obtain ⟨b1, b2⟩ := List.pairwise_cons.1 h2
    have hp := h p.1
    have hq := h q.1
    simp only [lk, if_true] at hp hq
    have hpq : p.1 = q.1 := by
      by_cases e : p.1 = q.1
      · exact e
      exfalso
      rw [if_neg e] at hp
      rw [if_neg (fun e' => e e'.symm)] at hq
      have m1 := b1 _ (lk_mem hp.symm)
      have m2 := a1 _ (lk_mem hq)
      have := V3.lt_trans m1 m2
      simp only [V3.lt_irrefl] at this; cases this
    rw [if_pos hpq] at hp
    have hpe : p = q := Prod.ext hpq (Option.some.inj hp)
    subst hpe
    congr 1
    refine srt_ext a2 b2 fun k => ?_
    have hk := h k
    simp only [lk] at hk
    by_cases e : k = p.1
    · subst e
      have f : ∀ {w : WM}, (∀ a ∈ w, p.1.lt a.1 = true) → lk w p.1 = none := fun {w} hw => by
        cases hl : lk w p.1 with
        | none => rfl
        | some m => have := hw _ (lk_mem hl); simp only [V3.lt_irrefl] at this; cases this
      rw [f a1, f b1]
    · rwa [if_neg e, if_neg e] at hk
def wmin (k : V3) (m : Int) (w : WM) : WM := match lk w k with
  | none => wput k m w
  | some n => if m < n then wput k m w else w
theorem wmin_srt {w : WM} (hs : Srt w) (k : V3) (m : Int) : Srt (wmin k m w) := by
  unfold wmin
  split
  · exact wput_srt hs k m
  · split
    · exact wput_srt hs k m
    · exact hs
/-- A row tells the least of some numbers for each key. -/
def Lst (P : V3 → Int → Prop) (w : WM) : Prop := ∀ k m, lk w k = some m ↔ P k m ∧ ∀ n, P k n → m ≤ n
theorem Lst.none {P : V3 → Int → Prop} {w : WM} (h : Lst P w) (hb : ∀ k n, P k n → 0 ≤ n) {k : V3} : lk w k = none ↔ ∀ n, ¬P k n := by
  constructor
  · intro hn n hp
    -- a least one
    have : ∀ (q : Nat) (n : Int), n.toNat ≤ q → P k n → ∃ m, P k m ∧ ∀ n, P k n → m ≤ n := by
      intro q
      induction q with
      | zero =>
        intro n h1 h2
        have := hb k n h2
        exact ⟨n, h2, fun n' h3 => by have := hb k n' h3; omega⟩
      | succ q ih =>
        intro n h1 h2
        by_cases hx : ∃ n', P k n' ∧ n' < n
        · obtain ⟨n', h3, h4⟩ := hx
          have := hb k n' h3
          exact ih n' (by omega) h3
        · exact ⟨n, h2, fun n' h3 => by
            by_cases h4 : n' < n
            · exact absurd ⟨n', h3, h4⟩ hx
            · omega⟩
    obtain ⟨m, h1⟩ := this n.toNat n (Nat.le_refl _) hp
    rw [(h k m).2 h1] at hn
    cases hn
  · intro hn
    cases hl : lk w k with
    | none => rfl
    | some m => exact absurd ((h k m).1 hl).1 (hn m)
theorem Lst.wmin {P : V3 → Int → Prop} {w : WM} (h : Lst P w) (hb : ∀ k n, P k n → 0 ≤ n) (k : V3) (m : Int) : Lst (fun j n => P j n ∨ (j = k ∧ n = m)) (wmin k m w) := by
  intro j n
  unfold T.wmin
  split
  · rename_i hl
    rw [lk_wput]
    by_cases hj : j = k
    · subst hj
      rw [if_pos rfl]
      have hno := (h.none hb).1 hl
      constructor
      · intro e
        cases e
        exact ⟨.inr ⟨rfl, rfl⟩, fun n' hn' => by
          rcases hn' with hn' | ⟨_, rfl⟩
          · exact absurd hn' (hno _)
          · exact Int.le_refl _⟩
      · rintro ⟨h1, _⟩
        rcases h1 with h1 | ⟨_, rfl⟩
        · exact absurd h1 (hno _)
        · rfl
    · rw [if_neg hj, h j n]
      constructor
      · rintro ⟨h1, h2⟩
        exact ⟨.inl h1, fun n' hn' => by rcases hn' with hn' | ⟨e, _⟩ <;> first | exact h2 _ hn' | exact absurd e hj⟩
      · rintro ⟨h1, h2⟩
        refine ⟨?_, fun n' hn' => h2 _ (.inl hn')⟩
        rcases h1 with h1 | ⟨e, _⟩
        · exact h1
        · exact absurd e hj
  · rename_i q hl
    obtain ⟨hq1, hq2⟩ := (h k q).1 hl
    by_cases hj : j = k
    · subst hj
      split
      · rename_i hlt
        rw [lk_wput, if_pos rfl]
        constructor
        · intro e
          cases e
          exact ⟨.inr ⟨rfl, rfl⟩, fun n' hn' => by
            rcases hn' with hn' | ⟨_, rfl⟩
            · have := hq2 _ hn'; omega
            · exact Int.le_refl _⟩
        · rintro ⟨h1, h2⟩
          have := h2 m (.inr ⟨rfl, rfl⟩)
          rcases h1 with h1 | ⟨_, rfl⟩
          · have := hq2 _ h1; omega
          · rfl
      · rename_i hlt
        rw [hl]
        constructor
        · intro e
          cases e
          exact ⟨.inl hq1, fun n' hn' => by
            rcases hn' with hn' | ⟨_, rfl⟩
            · exact hq2 _ hn'
            · omega⟩
        · rintro ⟨h1, h2⟩
          have := h2 q (.inl hq1)
          rcases h1 with h1 | ⟨_, rfl⟩
          · have := hq2 _ h1; rw [show n = q by omega]
          · rw [show n = q by omega]
    · have hsame : lk (if m < q then wput k m w else w) j = lk w j := by
        split
        · rw [lk_wput, if_neg hj]
        · rfl
      rw [hsame, h j n]
      constructor
      · rintro ⟨h1, h2⟩
        exact ⟨.inl h1, fun n' hn' => by rcases hn' with hn' | ⟨e, _⟩ <;> first | exact h2 _ hn' | exact absurd e hj⟩
      · rintro ⟨h1, h2⟩
        refine ⟨?_, fun n' hn' => h2 _ (.inl hn')⟩
        rcases h1 with h1 | ⟨e, _⟩
        · exact h1
        · exact absurd e hj
theorem Lst.congr {P P' : V3 → Int → Prop} {w : WM} (h : Lst P w) (e : ∀ k n, P k n ↔ P' k n) : Lst P' w := by
  intro k m
  rw [h k m, e]
  exact and_congr_right fun _ => ⟨fun h n hn => h n ((e k n).2 hn), fun h n hn => h n ((e k n).1 hn)⟩
theorem Lst.uniq {P : V3 → Int → Prop} {w w' : WM} (h1 : Srt w) (h2 : Srt w') (h : Lst P w) (h' : Lst P w') : w = w' := by
  refine srt_ext h1 h2 fun k => ?_
  cases hl : lk w k with
  | some m => exact ((h' k m).2 ((h k m).1 hl)).symm
  | none =>
    cases hl' : lk w' k with
    | none => rfl
    | some m => rw [(h k m).2 ((h' k m).1 hl')] at hl; cases hl
theorem lst_nil : Lst (fun _ _ => False) [] := fun k m => by simp [lk]
/-- A till more, for one entry. -/
def with1 (L : List Ch) (acc : WM) (p : V3 × Int) : WM := L.foldl (fun a c => wmin (c.t.add p.1) (p.2 + c.f) a) acc
def withF (w : WM) (L : List Ch) : WM := w.foldl (with1 L) []
theorem with1_lst {P : V3 → Int → Prop} (hb : ∀ k n, P k n → 0 ≤ n) (p : V3 × Int) (hp : 0 ≤ p.2) : ∀ (L : List Ch) (acc : WM), (∀ c ∈ L, 0 ≤ c.f) → Srt acc → Lst P acc →
    Srt (with1 L acc p) ∧ Lst (fun k n => P k n ∨ ∃ c ∈ L, k = c.t.add p.1 ∧ n = p.2 + c.f) (with1 L acc p) := by
  intro L
  induction L generalizing P with
  | nil => intro acc _ hs hl; exact ⟨hs, hl.congr fun k n => by simp⟩
  | cons c L ih =>
    intro acc hf hs hl
    have hc := hf c (by simp)
    obtain ⟨h1, h2⟩ := ih (P := fun j n => P j n ∨ (j = c.t.add p.1 ∧ n = p.2 + c.f)) (fun k n h => by rcases h with h | ⟨_, rfl⟩ <;> first | exact hb k n h | omega) (T.wmin (c.t.add p.1) (p.2 + c.f) acc) (fun d hd => hf d (by simp [hd])) (wmin_srt hs _ _) (hl.wmin hb _ _)
    refine ⟨h1, h2.congr fun k n => ?_⟩
    simp only [List.mem_cons, exists_eq_or_imp]
    exact or_assoc
theorem withF_lst {w : WM} {L : List Ch} (hw : ∀ p ∈ w, 0 ≤ p.2) (hL : ∀ c ∈ L, 0 ≤ c.f) : Srt (withF w L) ∧ Lst (fun k n => ∃ p ∈ w, ∃ c ∈ L, k = c.t.add p.1 ∧ n = p.2 + c.f) (withF w L) := by
  have gen : ∀ (w : WM) (acc : WM) (P : V3 → Int → Prop), (∀ p ∈ w, 0 ≤ p.2) → (∀ k n, P k n → 0 ≤ n) → Srt acc → Lst P acc → Srt (w.foldl (with1 L) acc) ∧ Lst (fun k n => P k n ∨ ∃ p ∈ w, ∃ c ∈ L, k = c.t.add p.1 ∧ n = p.2 + c.f) (w.foldl (with1 L) acc) := by
    intro w
    induction w with
    | nil => intro acc P _ _ hs hl; exact ⟨hs, hl.congr fun k n => by simp⟩
    | cons p w ih =>
      intro acc P hw hb hs hl
      have hp := hw p (by simp)
      obtain ⟨h1, h2⟩ := with1_lst hb p hp L acc hL hs hl
      obtain ⟨h3, h4⟩ := ih (with1 L acc p) _ (fun q hq => hw q (by simp [hq])) (fun k n h => by
        rcases h with h | ⟨c, hc, _, rfl⟩
        · exact hb k n h
        · have := hL c hc; omega) h1 h2
      refine ⟨h3, h4.congr fun k n => ?_⟩
      simp only [List.mem_cons, exists_eq_or_imp]
      exact or_assoc
  obtain ⟨h1, h2⟩ := gen w [] (fun _ _ => False) hw (fun _ _ h => h.elim) List.Pairwise.nil lst_nil
  exact ⟨h1, h2.congr fun k n => by simp⟩
/-- In whatever order the entries come. -/
theorem withF_perm {w w' : WM} {L : List Ch} (hp : w'.Perm w) (hw : ∀ p ∈ w, 0 ≤ p.2) (hL : ∀ c ∈ L, 0 ≤ c.f) : withF w' L = withF w L := by
  obtain ⟨h1, h2⟩ := withF_lst (w := w') (L := L) (fun p h => hw p (hp.mem_iff.1 h)) hL
  obtain ⟨h3, h4⟩ := withF_lst hw hL
  refine Lst.uniq h1 h3 h2 (h4.congr fun k n => ?_)
  exact ⟨fun ⟨p, h, r⟩ => ⟨p, hp.mem_iff.2 h, r⟩, fun ⟨p, h, r⟩ => ⟨p, hp.mem_iff.1 h, r⟩⟩
/-! ### What some tills can have sold together -/
/-- So much sold together by some tills, none of them above the seats, with so many flaws. -/
def Sold (p s : V3) (cs : List Ctr) (k : V3) (n : Int) : Prop := ∃ ts, IsT k cs ts ∧ (∀ t ∈ ts, t.le s) ∧ flT p cs ts = n
theorem sold_nn {p s : V3} {cs : List Ctr} : ∀ k n, Sold p s cs k n → 0 ≤ n := by
  rintro k n ⟨ts, _, _, rfl⟩
  exact (flT_bd p cs ts).1
theorem mem_chs {p s : V3} {c : Ctr} {x : Ch} : x ∈ chs p s c ↔ ∃ t, ((t.nn ∧ t.le s) ∧ t.sum = roll c) ∧ x = mkc p c t := by
  unfold chs
  rw [List.mem_map]
  simp only [mem_spl]
  exact ⟨fun ⟨t, h, e⟩ => ⟨t, h, e.symm⟩, fun ⟨t, h, e⟩ => ⟨t, h, e.symm⟩⟩
theorem chs_f {p s : V3} {c : Ctr} : ∀ x ∈ chs p s c, 0 ≤ x.f := by
  intro x hx
  obtain ⟨t, _, rfl⟩ := mem_chs.1 hx
  exact (flw_bd p c t).1
/-- One till more. -/
theorem ways_step {p s : V3} {cs : List Ctr} {c : Ctr} {w : WM} (hs : Srt w) (h : Lst (Sold p s cs) w) : Srt (withF w (chs p s c)) ∧ Lst (Sold p s (cs ++ [c])) (withF w (chs p s c)) := by
  have hw : ∀ q ∈ w, 0 ≤ q.2 := fun q hq => sold_nn _ _ ((h q.1 q.2).1 (mem_lk hs hq)).1
  obtain ⟨h1, h2⟩ := withF_lst (w := w) (L := chs p s c) hw chs_f
  refine ⟨h1, fun k m => ?_⟩
  rw [h2 k m]
  -- a least one of the left is a least one of the right
  have up : ∀ n, (∃ q ∈ w, ∃ x ∈ chs p s c, k = x.t.add q.1 ∧ n = q.2 + x.f) → Sold p s (cs ++ [c]) k n := by
    rintro n ⟨q, hq, x, hx, rfl, rfl⟩
    obtain ⟨⟨us, h3, h4, h5⟩, _⟩ := (h q.1 q.2).1 (mem_lk hs hq)
    obtain ⟨t, ⟨⟨ht1, ht2⟩, ht3⟩, rfl⟩ := mem_chs.1 hx
    refine ⟨us ++ [t], IsT_snoc.2 ⟨us, t, rfl, ⟨ht1, ht3⟩, ?_⟩, fun u hu => ?_, ?_⟩
    · rw [show ((mkc p c t).t.add q.1).sub t = q.1 from V3.ext' (by simp only [mkc, V3.add, V3.sub]; omega) (by simp only [mkc, V3.add, V3.sub]; omega) (by simp only [mkc, V3.add, V3.sub]; omega)]
      exact h3
    · rcases List.mem_append.1 hu with hu | hu
      · exact h4 u hu
      · rw [List.mem_singleton.1 hu]; exact ht2
    · rw [flT_snoc p c t (IsT_len h3), h5]; rfl
  have down : ∀ n, Sold p s (cs ++ [c]) k n → ∃ n', n' ≤ n ∧ ∃ q ∈ w, ∃ x ∈ chs p s c, k = x.t.add q.1 ∧ n' = q.2 + x.f := by
    rintro n ⟨ts, h3, h4, rfl⟩
    obtain ⟨us, t, rfl, h5, h6⟩ := IsT_snoc.1 h3
    have hsold : Sold p s cs (k.sub t) (flT p cs us) := ⟨us, h6, fun u hu => h4 u (by simp [hu]), rfl⟩
    cases hl : lk w (k.sub t) with
    | none => exact absurd hsold ((h.none sold_nn).1 hl _)
    | some m' =>
      have hm := ((h _ _).1 hl).2 _ hsold
      refine ⟨m' + flw p c t, by rw [flT_snoc p c t (IsT_len h6)]; omega, (k.sub t, m'), lk_mem hl, mkc p c t, mem_chs.2 ⟨t, ⟨⟨h5.1, h4 t (by simp)⟩, h5.2⟩, rfl⟩, ?_, rfl⟩
      exact V3.ext' (by simp only [mkc, V3.add, V3.sub]; omega) (by simp only [mkc, V3.add, V3.sub]; omega) (by simp only [mkc, V3.add, V3.sub]; omega)
  constructor
  · rintro ⟨h3, h4⟩
    exact ⟨up _ h3, fun n hn => by obtain ⟨n', h5, h6⟩ := down n hn; have := h4 n' h6; omega⟩
  · rintro ⟨h3, h4⟩
    obtain ⟨n', h5, h6⟩ := down m h3
    have h7 := h4 n' (up n' h6)
    obtain rfl : n' = m := by omega
    exact ⟨h6, fun n hn => h4 n (up n hn)⟩
def othersF (p s : V3) (cs : List Ctr) : WM := cs.foldl (fun w c => withF w (chs p s c)) [(V3.zero, 0)]
theorem others_lst (p s : V3) (cs : List Ctr) : Srt (othersF p s cs) ∧ Lst (Sold p s cs) (othersF p s cs) := by
  have gen : ∀ (cs ds : List Ctr) (w : WM), Srt w → Lst (Sold p s ds) w → Srt (cs.foldl (fun w c => withF w (chs p s c)) w) ∧ Lst (Sold p s (ds ++ cs)) (cs.foldl (fun w c => withF w (chs p s c)) w) := by
    intro cs
    induction cs with
    | nil => intro ds w h1 h2; rw [List.append_nil]; exact ⟨h1, h2⟩
    | cons c cs ih =>
      intro ds w h1 h2
      obtain ⟨h3, h4⟩ := ways_step (c := c) h1 h2
      have := ih (ds ++ [c]) _ h3 h4
      rwa [List.append_assoc] at this
  refine gen cs [] _ (List.pairwise_singleton _ _) fun k m => ?_
  simp only [lk]
  constructor
  · intro h
    split at h
    · rename_i hk
      cases h; subst hk
      exact ⟨⟨[], rfl, (fun t ht => nomatch ht), rfl⟩, fun n hn => sold_nn _ _ hn⟩
    · cases h
  · rintro ⟨⟨ts, h1, _, rfl⟩, _⟩
    match ts, h1 with
    | [], h1 =>
      obtain rfl : k = V3.zero := h1
      rw [if_pos rfl]; rfl
    | _ :: _, h1 => exact h1.elim
end Go.Ab.T
end

section
namespace Go.Ab.T
/-! ### What is likely -/
def scr (w : WM) (s : V3) (c : Ch) : Option Int := (lk w (s.sub c.t)).map (· + c.f)
def likS (w : WM) (s : V3) : List Ch → List Ch × Int → List Ch × Int
  | [], q => q
  | c :: L, q => match scr w s c with
    | none => likS w s L q
    | some g =>
      if q.1 = [] ∨ g < q.2 then likS w s L ([c], g)
      else if g = q.2 then likS w s L (q.1 ++ [c], q.2) else likS w s L q
def LikI (w : WM) (s : V3) (D : List Ch) (q : List Ch × Int) : Prop :=
  (q.1 = [] → (∀ c ∈ D, scr w s c = none) ∧ q.2 = 0) ∧ (q.1 ≠ [] → (∀ c, c ∈ q.1 ↔ c ∈ D ∧ scr w s c = some q.2) ∧ ∀ c ∈ D, ∀ g, scr w s c = some g → q.2 ≤ g)
theorem likS_I (w : WM) (s : V3) : ∀ (L D : List Ch) (q : List Ch × Int), LikI w s D q → LikI w s (D ++ L) (likS w s L q)
  | [], D, q, h => by rw [List.append_nil]; exact h
  | c :: L, D, ⟨l, f⟩, h => by
    have re : D ++ c :: L = (D ++ [c]) ++ L := by simp
    rw [re]
    obtain ⟨h1, h2⟩ := h
    simp only at h1 h2
    simp only [likS]
    split
    · rename_i hs
      refine likS_I w s L _ _ ⟨fun hl => ?_, fun hl => ?_⟩
      · obtain ⟨h3, h4⟩ := h1 hl
        refine ⟨fun d hd => ?_, h4⟩
        rcases List.mem_append.1 hd with hd | hd
        · exact h3 d hd
        · rw [List.mem_singleton.1 hd]; exact hs
      · obtain ⟨h3, h4⟩ := h2 hl
        refine ⟨fun d => ?_, fun d hd g hg => ?_⟩
        · rw [h3 d, List.mem_append, List.mem_singleton]
          constructor
          · rintro ⟨a, b⟩; exact ⟨.inl a, b⟩
          · rintro ⟨a | rfl, b⟩
            · exact ⟨a, b⟩
            · rw [hs] at b; cases b
        · rcases List.mem_append.1 hd with hd | hd
          · exact h4 d hd g hg
          · rw [List.mem_singleton.1 hd, hs] at hg; cases hg
    · rename_i g hs
      split
      · rename_i hc
        refine likS_I w s L _ _ ⟨fun hl => by simp at hl, fun _ => ⟨fun d => ?_, fun d hd g' hg => ?_⟩⟩
        · simp only [List.mem_append, List.mem_singleton]
          constructor
          · rintro rfl; exact ⟨.inr rfl, hs⟩
          · rintro ⟨hd | rfl, hg⟩
            · exfalso
              by_cases hl : l = []
              · rw [(h1 hl).1 d hd] at hg; cases hg
              · have := (h2 hl).2 d hd g hg
                rcases hc with hc | hc
                · exact hl hc
                · omega
            · rfl
        · simp only
          rcases List.mem_append.1 hd with hd | hd
          · by_cases hl : l = []
            · rw [(h1 hl).1 d hd] at hg; cases hg
            · have := (h2 hl).2 d hd g' hg
              rcases hc with hc | hc
              · exact absurd hc hl
              · omega
          · rw [List.mem_singleton.1 hd, hs] at hg; cases hg; exact Int.le_refl _
      · rename_i hc
        simp only [not_or] at hc
        obtain ⟨hl, hlt⟩ := hc
        obtain ⟨h3, h4⟩ := h2 hl
        split
        · rename_i he
          refine likS_I w s L _ _ ⟨fun hl => by simp at hl, fun _ => ⟨fun d => ?_, fun d hd g' hg => ?_⟩⟩
          · simp only [List.mem_append, List.mem_singleton, h3 d]
            constructor
            · rintro (⟨a, b⟩ | rfl)
              · exact ⟨.inl a, b⟩
              · exact ⟨.inr rfl, by rw [hs, he]⟩
            · rintro ⟨a | rfl, b⟩
              · exact .inl ⟨a, b⟩
              · exact .inr rfl
          · simp only
            rcases List.mem_append.1 hd with hd | hd
            · exact h4 d hd g' hg
            · rw [List.mem_singleton.1 hd, hs] at hg; cases hg; omega
        · rename_i he
          refine likS_I w s L _ _ ⟨fun hl' => absurd hl' hl, fun _ => ⟨fun d => ?_, fun d hd g' hg => ?_⟩⟩
          · simp only [h3 d, List.mem_append, List.mem_singleton]
            constructor
            · rintro ⟨a, b⟩; exact ⟨.inl a, b⟩
            · rintro ⟨a | rfl, b⟩
              · exact ⟨a, b⟩
              · rw [hs] at b; cases b; exact absurd rfl he
          · simp only
            rcases List.mem_append.1 hd with hd | hd
            · exact h4 d hd g' hg
            · rw [List.mem_singleton.1 hd, hs] at hg; cases hg
              omega
def IsMinF (p s : V3) (cs : List Ctr) (m : Int) : Prop := (∃ ts, IsT s cs ts ∧ flT p cs ts = m) ∧ ∀ ts, IsT s cs ts → m ≤ flT p cs ts
theorem IsMinF.uniq {p s : V3} {cs : List Ctr} {m n : Int} (h : IsMinF p s cs m) (k : IsMinF p s cs n) : m = n := by
  obtain ⟨⟨ts, h1, h2⟩, h3⟩ := h
  obtain ⟨⟨us, k1, k2⟩, k3⟩ := k
  have := h3 us k1
  have := k3 ts h1
  omega
def likF (p s : V3) (cs : List Ctr) (i : Nat) (c : Ctr) : List Ch × Int := likS (othersF p s (cs.eraseIdx i)) s (chs p s c) ([], 0)
theorem sold_iff {p s : V3} {cs : List Ctr} {t : V3} (ht : t.nn) {n : Int} : Sold p s cs (s.sub t) n ↔ ∃ us, IsT (s.sub t) cs us ∧ flT p cs us = n := by
  constructor
  · rintro ⟨us, h1, _, h2⟩; exact ⟨us, h1, h2⟩
  · rintro ⟨us, h1, h2⟩
    refine ⟨us, h1, fun u hu => ?_, h2⟩
    have := (IsT_nn h1).2 u hu
    simp only [V3.nn, V3.le, V3.sub] at this ht ⊢
    omega
theorem scr_some {p s : V3} {cs : List Ctr} {i : Nat} {c : Ctr} (hc : cs[i]? = some c) {t : V3} (ht : (t.nn ∧ t.le s) ∧ t.sum = roll c) {g : Int} : scr (othersF p s (cs.eraseIdx i)) s (mkc p c t) = some g ↔
    (∃ ts, IsT s cs ts ∧ ts[i]? = some t ∧ flT p cs ts = g) ∧ ∀ ts, IsT s cs ts → ts[i]? = some t → g ≤ flT p cs ts := by
  unfold scr
  rw [Option.map_eq_some_iff]
  have hl := (others_lst p s (cs.eraseIdx i)).2
  have key : ∀ n, Sold p s (cs.eraseIdx i) (s.sub t) n ↔ ∃ ts, IsT s cs ts ∧ ts[i]? = some t ∧ flT p cs ts = n + flw p c t := by
    intro n
    rw [sold_iff ht.1.1]
    constructor
    · rintro ⟨us, h1, h2⟩
      obtain ⟨ts, h3, h4, h5⟩ := IsT_insert hc ⟨ht.1.1, ht.2⟩ h1
      exact ⟨ts, h3, h4, by rw [flT_erase p hc h4, h5, h2]; omega⟩
    · rintro ⟨ts, h3, h4, h5⟩
      obtain ⟨t', h6, _, h7⟩ := IsT_erase hc h3
      rw [h4] at h6; cases h6
      rw [flT_erase p hc h4] at h5
      exact ⟨_, h7, by omega⟩
  show (∃ a, lk _ (s.sub t) = some a ∧ a + flw p c t = g) ↔ _
  constructor
  · rintro ⟨a, h1, rfl⟩
    obtain ⟨h2, h3⟩ := (hl _ _).1 h1
    refine ⟨(key a).1 h2, fun ts h4 h5 => ?_⟩
    have := h3 (flT p cs ts - flw p c t) ((key _).2 ⟨ts, h4, h5, by omega⟩)
    omega
  · rintro ⟨⟨ts, h1, h2, h3⟩, h4⟩
    refine ⟨g - flw p c t, (hl _ _).2 ⟨(key _).2 ⟨ts, h1, h2, by omega⟩, fun n hn => ?_⟩, by omega⟩
    obtain ⟨us, h5, h6, h7⟩ := (key n).1 hn
    have := h4 us h5 h6
    omega
theorem scr_none {p s : V3} {cs : List Ctr} {i : Nat} {c : Ctr} (hc : cs[i]? = some c) {t : V3} (ht : (t.nn ∧ t.le s) ∧ t.sum = roll c) (h : scr (othersF p s (cs.eraseIdx i)) s (mkc p c t) = none) {ts : List V3} (h1 : IsT s cs ts) (h2 : ts[i]? = some t) : False := by
  have hl := (others_lst p s (cs.eraseIdx i)).2
  unfold scr at h
  rw [Option.map_eq_none_iff] at h
  obtain ⟨t', h6, _, h7⟩ := IsT_erase hc h1
  rw [h2] at h6; cases h6
  exact (hl.none sold_nn).1 h _ ((sold_iff ht.1.1).2 ⟨_, h7, rfl⟩)
/-- What likely tells. -/
theorem lik_spec {p s : V3} {cs : List Ctr} {i : Nat} {c : Ctr} (hc : cs[i]? = some c) (hT : ∃ ts, IsT s cs ts) : (likF p s cs i c).1 ≠ [] ∧ IsMinF p s cs (likF p s cs i c).2 ∧
    ∀ x, x ∈ (likF p s cs i c).1 ↔ ∃ ts t, IsT s cs ts ∧ flT p cs ts = (likF p s cs i c).2 ∧ ts[i]? = some t ∧ x = mkc p c t := by
  have hI : LikI (othersF p s (cs.eraseIdx i)) s (chs p s c) (likF p s cs i c) := likS_I (othersF p s (cs.eraseIdx i)) s (chs p s c) [] ([], 0) ⟨fun _ => ⟨(fun c hc => nomatch hc), rfl⟩, fun h => absurd rfl h⟩
  generalize likF p s cs i c = q at hI ⊢
  obtain ⟨h1, h2⟩ := hI
  have okt : ∀ {ts t}, IsT s cs ts → ts[i]? = some t → (t.nn ∧ t.le s) ∧ t.sum = roll c := fun {ts t} h3 h4 => by
    obtain ⟨t', h5, h6, _⟩ := IsT_erase hc h3
    rw [h4] at h5; cases h5
    exact ⟨(IsT_nn h3).2 t (List.mem_of_getElem? h4), h6.2⟩
  have has : ∀ {ts}, IsT s cs ts → ∃ t, ts[i]? = some t := fun {ts} h3 => (IsT_erase hc h3).imp fun t h => h.1
  have hne : q.1 ≠ [] := by
    intro hl
    obtain ⟨ts, h3⟩ := hT
    obtain ⟨t, h4⟩ := has h3
    have h5 := okt h3 h4
    exact scr_none hc h5 ((h1 hl).1 _ (mem_chs.2 ⟨t, h5, rfl⟩)) h3 h4
  obtain ⟨h3, h4⟩ := h2 hne
  have hmin : ∀ ts, IsT s cs ts → q.2 ≤ flT p cs ts := by
    intro ts h5
    obtain ⟨t, h6⟩ := has h5
    have h7 := okt h5 h6
    cases hs : scr (othersF p s (cs.eraseIdx i)) s (mkc p c t) with
    | none => exact (scr_none hc h7 hs h5 h6).elim
    | some g =>
      have h8 := h4 _ (mem_chs.2 ⟨t, h7, rfl⟩) g hs
      have h9 := ((scr_some hc h7).1 hs).2 ts h5 h6
      omega
  have hmem : ∀ x, x ∈ q.1 ↔ ∃ ts t, IsT s cs ts ∧ flT p cs ts = q.2 ∧ ts[i]? = some t ∧ x = mkc p c t := by
    intro x
    rw [h3 x]
    constructor
    · rintro ⟨h5, h6⟩
      obtain ⟨t, h7, rfl⟩ := mem_chs.1 h5
      obtain ⟨⟨ts, h8, h9, h10⟩, _⟩ := (scr_some hc h7).1 h6
      exact ⟨ts, t, h8, h10, h9, rfl⟩
    · rintro ⟨ts, t, h5, h6, h7, rfl⟩
      have h8 := okt h5 h7
      exact ⟨mem_chs.2 ⟨t, h8, rfl⟩, (scr_some hc h8).2 ⟨⟨ts, h5, h7, h6⟩, fun us h9 _ => by have := hmin us h9; omega⟩⟩
  refine ⟨hne, ⟨?_, hmin⟩, hmem⟩
  obtain ⟨x, hx⟩ := List.exists_mem_of_ne_nil _ hne
  obtain ⟨ts, t, h5, h6, _⟩ := (hmem x).1 hx
  exact ⟨ts, h5, h6⟩
end Go.Ab.T
end
