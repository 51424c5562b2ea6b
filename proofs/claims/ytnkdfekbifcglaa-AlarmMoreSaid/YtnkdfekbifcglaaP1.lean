/-
  A part of the proofs over this seat.
  (The texts KrM0 KrM1 KrK1, one behind the other.)
-/
import Derived.Test.YtnkdfekbifcglaaA0
import Derived.Test.YtnkdfekbifcglaaT1
set_option linter.unusedSimpArgs false
set_option linter.unusedVariables false
set_option linter.unusedSectionVars false
section
namespace Go.Ab.T
/-! ### Houses -/
structure Pas where
  fr : Int
  to : Int
  wd : Int
  wk : Int
structure Ho where
  p : List Int
  s : List Pas
def isW (n lo hi : Int) : Bool := decide (lo ≤ n) && decide (n ≤ hi)
theorem isW_iff {n lo hi : Int} : isW n lo hi = true ↔ lo ≤ n ∧ n ≤ hi := by unfold isW; simp
def vPas (n : Int) (q : Pas) : Bool := (((isW q.fr 0 (n - 1) && (q.to == -1 || isW q.to 0 (n - 1))) && q.fr != q.to) && isW q.wd 0 20) && isW q.wk 1 9
def vHo (h : Ho) : Bool := ((isW h.p.length 1 6 && !(h.p.any fun x => !isW x 0 99)) && decide ((h.s.length : Int) ≤ 12)) && !(h.s.any fun q => !vPas h.p.length q)
structure PV (n : Int) (q : Pas) : Prop where
  f0 : 0 ≤ q.fr
  f1 : q.fr < n
  t0 : -1 ≤ q.to
  t1 : q.to < n
  ne : q.fr ≠ q.to
  w0 : 0 ≤ q.wd
  w1 : q.wd ≤ 20
  k0 : 1 ≤ q.wk
  k1 : q.wk ≤ 9
structure HV (h : Ho) : Prop where
  n1 : 1 ≤ h.p.length
  n6 : h.p.length ≤ 6
  pe : ∀ x ∈ h.p, 0 ≤ x ∧ x ≤ 99
  sl : h.s.length ≤ 12
  sv : ∀ q ∈ h.s, PV h.p.length q
theorem vPas_iff {n : Int} {q : Pas} (hn : 1 ≤ n) : vPas n q = true ↔ PV n q := by
  unfold vPas
  simp only [Bool.and_eq_true, Bool.or_eq_true, isW_iff, beq_iff_eq, bne_iff_ne]
  constructor
  · rintro ⟨⟨⟨⟨⟨a, b⟩, c⟩, d⟩, e, f⟩, g, i⟩
    exact ⟨a, by omega, by omega, by omega, d, e, f, g, i⟩
  · intro h
    obtain ⟨a, b, c, d, e, f, g, i, j⟩ := h
    exact ⟨⟨⟨⟨⟨a, by omega⟩, by omega⟩, e⟩, f, g⟩, i, j⟩
theorem vHo_iff {h : Ho} : vHo h = true ↔ HV h := by
  unfold vHo
  simp only [Bool.and_eq_true, Bool.not_eq_true', isW_iff, decide_eq_true_eq, List.any_eq_false, Bool.not_eq_false]
  constructor
  · rintro ⟨⟨⟨⟨a, b⟩, c⟩, d⟩, e⟩
    exact ⟨by omega, by omega, c, by omega, fun q hq => (vPas_iff (by omega)).1 (e q hq)⟩
  · intro H
    have := H.n1
    have := H.n6
    have := H.sl
    exact ⟨⟨⟨⟨by omega, by omega⟩, H.pe⟩, by omega⟩, fun q hq => (vPas_iff (by omega)).2 (H.sv q hq)⟩
def allP (h : Ho) : Int := h.p.sum
def errM (h : Ho) (T : Int) : Int := if vHo h = true then (if isW T 0 60 = true then 0 else 1) else 110
end Go.Ab.T
end

section
namespace Go.Ab.T
/-! ### Flows -/
abbrev K2 := Int × Int
structure Arc where
  p : Int
  m : Int
  a : Int
  b : Int
  w : Int
def Arc.key (a : Arc) : K2 := (a.p, a.m)
abbrev US := K2 → Int
abbrev SS := Int → Bool
def Phi (E : List Arc) (U : US) (φ : Int → Int) : Int := (E.map fun a => U a.key * (φ a.a - φ a.b)).sum
def updK (U : US) (k : K2) (d : Int) : US := fun j => if j = k then U j + d else U j
def KD (E : List Arc) : Prop := E.Pairwise fun a b => a.key ≠ b.key
theorem Phi_none {E : List Arc} {U : US} {k : K2} {d : Int} {φ : Int → Int} (h : ∀ a ∈ E, a.key ≠ k) : Phi E (updK U k d) φ = Phi E U φ := by
  unfold Phi
  congr 1
  refine List.map_congr_left fun a ha => ?_
  simp only [updK, if_neg (h a ha)]
theorem Phi_cons (a : Arc) (E : List Arc) (U : US) (φ : Int → Int) : Phi (a :: E) U φ = U a.key * (φ a.a - φ a.b) + Phi E U φ := by
  simp only [Phi, List.map_cons, List.sum_cons]
theorem Phi_upd : ∀ {E : List Arc} (_ : KD E) {a : Arc} (_ : a ∈ E) (U : US) (d : Int) (φ : Int → Int), Phi E (updK U a.key d) φ = Phi E U φ + d * (φ a.a - φ a.b)
  | [], _, a, h, _, _, _ => by simp at h
  | b :: E, hE, a, h, U, d, φ => by
    obtain ⟨h1, h2⟩ := List.pairwise_cons.1 hE
    rw [Phi_cons, Phi_cons]
    rcases List.mem_cons.1 h with rfl | h
    · rw [Phi_none (fun x hx e => h1 x hx e.symm)]
      simp only [updK, if_true]
      rw [Int.add_mul]; omega
    · rw [Phi_upd h2 h U d φ]
      have : b.key ≠ a.key := h1 a h
      simp only [updK, if_neg this]
      omega
theorem KD_inj {E : List Arc} (h : KD E) {a b : Arc} (ha : a ∈ E) (hb : b ∈ E) (e : a.key = b.key) : a = b := by
  induction E with
  | nil => simp at ha
  | cons x E ih =>
    obtain ⟨h1, h2⟩ := List.pairwise_cons.1 h
    rcases List.mem_cons.1 ha with ha' | ha' <;> rcases List.mem_cons.1 hb with hb' | hb'
    · rw [ha', hb']
    · subst ha'; exact absurd e (h1 b hb')
    · subst hb'; exact absurd e.symm (h1 a ha')
    · exact ih h2 ha' hb'
def Cap (E : List Arc) (U : US) : Prop := ∀ a ∈ E, 0 ≤ U a.key ∧ U a.key ≤ a.w
def Arc.to (a : Arc) (v : Int) : Int := if a.a = v then a.b else a.a
def Arc.free (a : Arc) (U : US) (v : Int) : Int := if a.a = v then a.w - U a.key else U a.key
def Arc.sgn (a : Arc) (v : Int) : Int := if a.a = v then 1 else -1
def Arc.at' (a : Arc) (v : Int) : Prop := a.a = v ∨ a.b = v
theorem free_nn {E : List Arc} {U : US} (h : Cap E U) {a : Arc} (ha : a ∈ E) (v : Int) : 0 ≤ a.free U v := by
  have := h a ha
  unfold Arc.free; split <;> omega
/-- What can be reached from nodes that were not seen before has been seen. -/
def Closed (E : List Arc) (U : US) (S S' : SS) : Prop := ∀ x, S' x = true → S x = false → ∀ a ∈ E, a.at' x → 0 < a.free U x → S' (a.to x) = true
structure Lead (E : List Arc) (v P : Int) (U : US) (S : SS) (g : Int) (U' : US) (S' : SS) : Prop where
  g0 : 0 ≤ g
  g1 : g ≤ P
  cap : Cap E U'
  phi : ∀ φ, Phi E U' φ = Phi E U φ + g * (φ v - φ 1)
  sub : ∀ x, S x = true → S' x = true
  s1 : S' 1 = S 1
  sv : v ≠ 1 → S' v = true
  chg : ∀ a ∈ E, U' a.key ≠ U a.key → S a.a = false ∧ S a.b = false
  oth : ∀ k, (∀ a ∈ E, a.key ≠ k) → U' k = U k
  zero : 0 < P → g = 0 → U' = U ∧ v ≠ 1 ∧ S' v = true ∧ Closed E U S S'
  non : v ≠ 1 → (P = 0 ∨ ∀ a ∈ E, a.at' v → a.free U v = 0) → g = 0 ∧ U' = U ∧ ∀ x, S' x = true → S x = true ∨ x = v
theorem Lead_out {E : List Arc} {P : Int} {U : US} {S : SS} (hP : 0 ≤ P) (hc : Cap E U) : Lead E 1 P U S P U S :=
  ⟨hP, Int.le_refl _, hc, fun φ => by rw [Int.sub_self, Int.mul_zero, Int.add_zero], fun _ h => h, rfl, fun h => absurd rfl h, fun a _ h => absurd rfl h, fun _ _ => rfl, fun h1 h2 => by omega, fun h => absurd rfl h⟩
/-- While the arcs of a node are gone through. -/
structure LeadI (E : List Arc) (v P : Int) (U0 : US) (S0 : SS) (D : List Arc) (g : Int) (U : US) (S : SS) : Prop where
  g0 : 0 ≤ g
  g1 : g ≤ P
  cap : Cap E U
  phi : ∀ φ, Phi E U φ = Phi E U0 φ + g * (φ v - φ 1)
  sub : ∀ x, S0 x = true → S x = true
  sv : S v = true
  s1 : S 1 = S0 1
  chg : ∀ a ∈ E, U a.key ≠ U0 a.key → S0 a.a = false ∧ S0 a.b = false
  oth : ∀ k, (∀ a ∈ E, a.key ≠ k) → U k = U0 k
  zero : 0 < P → g = 0 → U = U0 ∧ (∀ x, S x = true → S0 x = false → x ≠ v → ∀ a ∈ E, a.at' x → 0 < a.free U x → S (a.to x) = true) ∧ ∀ a ∈ D, 0 < a.free U v → S (a.to v) = true
  non : (P = 0 ∨ ∀ a ∈ E, a.at' v → a.free U0 v = 0) → g = 0 ∧ U = U0 ∧ ∀ x, S x = true → S0 x = true ∨ x = v
def setS (S : SS) (v : Int) : SS := fun x => if x = v then true else S x
theorem LeadI_nil {E : List Arc} {v P : Int} {U : US} {S : SS} (hP : 0 ≤ P) (hc : Cap E U) (hv : v ≠ 1) : LeadI E v P U S [] 0 U (setS S v) where
  g0 := Int.le_refl _
  g1 := hP
  cap := hc
  phi := fun φ => by omega
  sub := fun x h => by simp only [setS]; split <;> simp [h]
  sv := by simp [setS]
  s1 := by simp only [setS, if_neg (fun e => hv (Eq.symm e))]
  chg := fun a _ h => absurd rfl h
  oth := fun _ _ => rfl
  zero := fun _ _ => ⟨rfl, fun x h1 h2 h3 => absurd h1 (by simp only [setS, if_neg h3, h2]; simp), fun a h => absurd h (by simp)⟩
  non := fun _ => ⟨rfl, rfl, fun x h => by
    simp only [setS] at h
    split at h
    · right; assumption
    · left; exact h⟩
theorem LeadI.skip {E : List Arc} {v P : Int} {U0 U : US} {S0 S : SS} {D : List Arc} {g : Int} (h : LeadI E v P U0 S0 D g U S) {a : Arc} (ha : a ∈ E) (hs : S (a.to v) = true ∨ min (a.free U v) (P - g) = 0) : LeadI E v P U0 S0 (D ++ [a]) g U S :=
  { h with zero := (fun p e => by
      obtain ⟨z1, z2, z3⟩ := h.zero p e
      refine ⟨z1, z2, fun b hb hf => ?_⟩
      rcases List.mem_append.1 hb with hb | hb
      · exact z3 b hb hf
      · rw [List.mem_singleton] at hb
        subst hb
        rcases hs with hs | hs
        · exact hs
        · subst e; omega) }
theorem LeadI.go {E : List Arc} (hE : KD E) {v P : Int} (hv : v ≠ 1) {U0 U : US} {S0 S : SS} (hv0 : S0 v = false) {D : List Arc} {g : Int} (h : LeadI E v P U0 S0 D g U S) {a : Arc} (ha : a ∈ E) (hav : a.at' v) (hab : a.a ≠ a.b)
    (hs : S (a.to v) = false) (hf : min (a.free U v) (P - g) ≠ 0) {more : Int} {U1 : US} {S1 : SS} (hL : Lead E (a.to v) (min (a.free U v) (P - g)) U S more U1 S1) :
    LeadI E v P U0 S0 (D ++ [a]) (g + more) (updK U1 a.key (a.sgn v * more)) S1 := by
  have hfn := free_nn h.cap ha v
  have hg0 := h.g0
  have hg1 := h.g1
  have hm0 := hL.g0
  have hm1 := hL.g1
  have hfp : 0 < min (a.free U v) (P - g) := by omega
  have hends : S a.a = true ∨ S a.b = true := by
    rcases hav with e | e
    · exact .inl (by rw [e]; exact h.sv)
    · exact .inr (by rw [e]; exact h.sv)
  have hsame : U1 a.key = U a.key := by
    refine Decidable.byContradiction fun hne => ?_
    obtain ⟨q1, q2⟩ := hL.chg a ha hne
    rcases hends with e | e
    · rw [q1] at e; cases e
    · rw [q2] at e; cases e
  have h0 : ∀ x, S x = false → S0 x = false := fun x hx => by
    cases hq : S0 x with
    | false => rfl
    | true => have := h.sub x hq; rw [hx] at this; cases this
  have z : 0 < P → g + more = 0 → g = 0 ∧ more = 0 := fun _ e => by omega
  refine ⟨by omega, by omega, ?_, ?_, fun x hx => hL.sub x (h.sub x hx), hL.sub v h.sv, by rw [hL.s1, h.s1], ?_, ?_, ?_, ?_⟩
  · intro b hb
    by_cases hk : b.key = a.key
    · have := KD_inj hE hb ha hk
      subst this
      have hc := h.cap b hb
      simp only [updK, if_true, hsame]
      unfold Arc.sgn
      unfold Arc.free at hm1 hfn
      split <;> rename_i hq <;> simp only [hq, if_true, if_false] at hm1 hfn <;> omega
    · simp only [updK, if_neg hk]
      exact hL.cap b hb
  · intro φ
    rw [Phi_upd hE ha, hL.phi, h.phi]
    unfold Arc.sgn Arc.to
    split
    · rename_i hq
      rw [hq, Int.add_mul, Int.one_mul, Int.mul_sub, Int.mul_sub, Int.mul_sub, Int.mul_sub]; omega
    · rename_i hq
      have hb : a.b = v := hav.resolve_left hq
      rw [hb, Int.add_mul, Int.mul_sub, Int.mul_sub, Int.mul_sub, Int.mul_sub]
      rw [show (-1 * more) * φ a.a = -(more * φ a.a) by rw [Int.neg_mul, Int.one_mul, Int.neg_mul], show (-1 * more) * φ v = -(more * φ v) by rw [Int.neg_mul, Int.one_mul, Int.neg_mul]]
      omega
  · intro b hb hne
    by_cases hk : b.key = a.key
    · have := KD_inj hE hb ha hk
      subst this
      refine Decidable.byContradiction fun _ => ?_
      rename_i hno
      rcases hav with e | e
      · have ht : b.to v = b.b := by unfold Arc.to; rw [if_pos e]
        exact hno ⟨by rw [e]; exact hv0, by rw [← ht]; exact h0 _ hs⟩
      · have ht : b.to v = b.a := by unfold Arc.to; rw [if_neg (fun q => hab (q.trans e.symm))]
        exact hno ⟨by rw [← ht]; exact h0 _ hs, by rw [e]; exact hv0⟩
    · simp only [updK, if_neg hk] at hne
      by_cases hq : U1 b.key = U b.key
      · rw [hq] at hne; exact h.chg b hb hne
      · obtain ⟨q1, q2⟩ := hL.chg b hb hq
        exact ⟨h0 _ q1, h0 _ q2⟩
  · intro k hk
    simp only [updK]
    rw [if_neg (fun e => hk a ha e.symm), hL.oth k hk, h.oth k hk]
  · intro p e
    obtain ⟨rfl, rfl⟩ := z p e
    obtain ⟨z1, z2, z3⟩ := h.zero p rfl
    obtain ⟨y1, y2, y3, y4⟩ := hL.zero hfp rfl
    have hU : updK U1 a.key (a.sgn v * 0) = U := by
      rw [y1]; funext k; simp only [updK, Int.mul_zero, Int.add_zero, ite_self]
    rw [hU]
    refine ⟨z1, fun x x1 x2 x3 b hb hbx hfr => ?_, fun b hb hfr => ?_⟩
    · cases hsx : S x with
      | true => exact hL.sub _ (z2 x hsx x2 x3 b hb hbx hfr)
      | false => exact y4 x x1 hsx b hb hbx hfr
    · rcases List.mem_append.1 hb with hb | hb
      · exact hL.sub _ (z3 b hb hfr)
      · rw [List.mem_singleton] at hb
        subst hb; exact y3
  · intro hn
    exfalso
    obtain ⟨n1, n2, n3⟩ := h.non hn
    subst n1
    rcases hn with hn | hn
    · omega
    · have := hn a ha hav
      rw [← n2] at this; omega
theorem LeadI.done {E : List Arc} {v P : Int} (hv : v ≠ 1) {U0 U : US} {S0 S : SS} {D : List Arc} {g : Int} (h : LeadI E v P U0 S0 D g U S) (hD : ∀ a ∈ E, a.at' v → a ∈ D) : Lead E v P U0 S0 g U S :=
  { h with
    sv := fun _ => h.sv
    zero := (fun p e => by
      obtain ⟨z1, z2, z3⟩ := h.zero p e
      refine ⟨z1, hv, h.sv, fun x x1 x2 a ha hax hf => ?_⟩
      by_cases hx : x = v
      · subst hx
        exact z3 a (hD a ha hax) (by rw [z1]; exact hf)
      · exact z2 x x1 x2 hx a ha hax (by rw [z1]; exact hf))
    non := fun _ hn => h.non hn }
end Go.Ab.T
end

section
namespace Go.Ab.T
set_option maxRecDepth 8000
set_option maxHeartbeats 1000000
theorem wrap_n1 (k : Nat) (h : k < 4611686018427387904) : IntKind.i64.wrap ((k : Int) + 1) = ((k + 1 : Nat) : Int) := by rw [wrap_i64 _ (by omega) (by omega)]; omega
theorem wrap_i1 (k : Int) (h0 : -4611686018427387904 < k) (h : k < 4611686018427387904) : IntKind.i64.wrap (k + 1) = k + 1 := wrap_i64 _ (by omega) (by omega)
def encP (q : Pas) : AV := .agg [I64 q.fr, I64 q.to, I64 q.wd, I64 q.wk]
theorem PCells (q : Pas) : (encP q).cells = [I64 q.fr, I64 q.to, I64 q.wd, I64 q.wk] := rfl
theorem PEta (q : Pas) : AV.agg [I64 q.fr, I64 q.to, I64 q.wd, I64 q.wk] = encP q := rfl
theorem snP (m : Mem) (n : Nat) (q : Pas) : snap m (n + 2) (encP q) = encP q := rfl
theorem hotP (n : Nat) (q : Pas) : hot (n + 2) (encP q) = false := rfl
def encIs (l : List Int) : AV := .sl (l.map I64) .unk
theorem IsCells (l : List Int) : (encIs l).cells = [encIs l] := rfl
theorem IsSolid (l : List Int) : (encIs l).solid = true := rfl
theorem IsAgg (l : List Int) : (encIs l).isAgg = false := rfl
theorem IsNil : AV.sl [] .unk = encIs [] := rfl
theorem Is_len (m : Mem) (l : List Int) : lenAt m (encIs l) = some (I64 l.length) := by unfold encIs; rw [lenAt_sl, List.length_map]
theorem Is_get (l : List Int) (k : Nat) : (l.map I64)[k]? = l[k]?.map I64 := List.getElem?_map
theorem Is_idx {l : List Int} {k : Nat} {x : Int} (h : l[k]? = some x) (m : Mem) : idxAt m (encIs l) (I64 (k : Int)) 1 = some (.pv (I64 x) 0) := by
  unfold encIs
  rw [idxAt_sl, if_pos (by omega), Int.toNat_natCast, Is_get, h]
  rfl
theorem Is_idxI {l : List Int} {n : Int} {x : Int} (h0 : 0 ≤ n) (h : l[n.toNat]? = some x) (m : Mem) : idxAt m (encIs l) (I64 n) 1 = some (.pv (I64 x) 0) := by
  have := Is_idx h m
  rwa [Int.toNat_of_nonneg h0] at this
theorem snIs (m : Mem) (q : Nat) (l : List Int) : snap m (q + 2) (encIs l) = encIs l := by
  show AV.sl ((l.map I64).map (snap m (q + 1))) .unk = _
  rw [List.map_map, show snap m (q + 1) ∘ I64 = I64 from funext (fun _ => rfl)]; rfl
theorem hotIs (q : Nat) (l : List Int) : hot (q + 2) (encIs l) = false := by
  show (l.map I64).any (hot (q + 1)) = false
  rw [List.any_map, List.any_eq_false]; intro x _; simp only [Function.comp]; rw [show hot (q + 1) (I64 x) = false from rfl]; decide
def encPs (l : List Pas) : AV := .sl (l.map encP) .unk
theorem PsCells (l : List Pas) : (encPs l).cells = [encPs l] := rfl
theorem PsSolid (l : List Pas) : (encPs l).solid = true := rfl
theorem PsAgg (l : List Pas) : (encPs l).isAgg = false := rfl
theorem PsNil : AV.sl [] .unk = encPs [] := rfl
theorem Ps_len (m : Mem) (l : List Pas) : lenAt m (encPs l) = some (I64 l.length) := by unfold encPs; rw [lenAt_sl, List.length_map]
theorem Ps_get (l : List Pas) (k : Nat) : (l.map encP)[k]? = l[k]?.map encP := List.getElem?_map
theorem Ps_idx {l : List Pas} {k : Nat} {x : Pas} (h : l[k]? = some x) (m : Mem) : idxAt m (encPs l) (I64 (k : Int)) 4 = some (.pv (encP x) 0) := by
  unfold encPs
  rw [idxAt_sl, if_pos (by omega), Int.toNat_natCast, Ps_get, h]
  rfl
theorem Ps_idxI {l : List Pas} {n : Int} {x : Pas} (h0 : 0 ≤ n) (h : l[n.toNat]? = some x) (m : Mem) : idxAt m (encPs l) (I64 n) 4 = some (.pv (encP x) 0) := by
  have := Ps_idx h m
  rwa [Int.toNat_of_nonneg h0] at this
theorem snPs (m : Mem) (q : Nat) (l : List Pas) : snap m (q + 3) (encPs l) = encPs l := by
  show AV.sl ((l.map encP).map (snap m (q + 2))) .unk = _
  rw [List.map_map, show snap m (q + 2) ∘ encP = encP from funext (fun t => snP m q t)]; rfl
theorem hotPs (q : Nat) (l : List Pas) : hot (q + 3) (encPs l) = false := by
  show (l.map encP).any (hot (q + 2)) = false
  rw [List.any_map, List.any_eq_false]; intro x _; simp only [Function.comp]; rw [show hot (q + 2) (encP x) = false from hotP q x]; decide
def encH (h : Ho) : AV := .agg [encIs h.p, encPs h.s]
theorem HCells (h : Ho) : (encH h).cells = [encIs h.p, encPs h.s] := rfl
theorem HEta (h : Ho) : AV.agg [encIs h.p, encPs h.s] = encH h := rfl
theorem snH (m : Mem) (q : Nat) (h : Ho) : snap m (q + 4) (encH h) = encH h := by
  show AV.agg [snap m (q + 3) (encIs h.p), snap m (q + 3) (encPs h.s)] = _
  rw [snIs, snPs]; rfl
theorem hotH (q : Nat) (h : Ho) : hot (q + 4) (encH h) = false := by
  show (hot (q + 3) (encIs h.p) || (hot (q + 3) (encPs h.s) || false)) = false
  rw [hotIs, hotPs]; rfl
attribute [go_sem] PCells IsCells IsSolid IsAgg Is_len PsCells PsSolid PsAgg Ps_len HCells snP hotP snIs hotIs snPs hotPs snH hotH
def idxP {α : Type} (p : α → Bool) : List α → Nat → Int
  | [], _ => -1
  | x :: r, k => if p x = true then (k : Int) else idxP p r (k + 1)
theorem idxP_any {α : Type} (p : α → Bool) : ∀ (l : List α) (k : Nat), decide (0 ≤ idxP p l k) = l.any p
  | [], k => rfl
  | x :: r, k => by
    unfold idxP
    cases h : p x
    · simp only [Bool.false_eq_true, if_false, List.any_cons, h, Bool.false_or]
      exact idxP_any p r (k + 1)
    · simp only [if_true, List.any_cons, h, Bool.true_or]
      exact decide_eq_true (by omega)
theorem IndexFuncI_ok (l : List Int) (f : AV) (p : Int → Bool) (hl : l.length < 1073741824)
    (hf : ∀ x ∈ l, ∀ (e : Nat → AV) (m : Mem) (K : AV → St → Prop), K (.bool (p x)) ⟨e, m⟩ → @WAH ft f [I64 x] ⟨e, m⟩ ⟨K⟩) : RV ft 71 [encIs l, f] (I64 (idxP p l 0)) := by
  refine RV_of ft71 rfl ?_
  simp only [c71, r71]
  simp only [go_sem, Nat.reduceEqDiff, Nat.reduceAdd, Nat.reduceLT, Nat.reduceLeDiff, reduceIte]
  refine WL_inv (α := Nat × List Int) (fun q e mm => e 0 = encIs l ∧ e 1 = f ∧ e 7 = I64 l.length ∧ e 8 = I64 q.1 ∧ l.drop q.1 = q.2 ∧ idxP p q.2 q.1 = idxP p l 0) (fun q => q.2.length) (0, l) ?_ ?_
  · simp only [go_sem, Nat.reduceEqDiff, Nat.reduceAdd, Nat.reduceLT, Nat.reduceLeDiff, reduceIte]
    ((repeat' apply And.intro) <;> first | trivial | rfl | omega | assumption)
  rintro ⟨k, r⟩ e m ⟨h0, h1, h7, h8, hd, hq⟩
  dsimp only at h8 hd hq
  cases r with
  | nil =>
    have h3 := drop_nil hd
    simp only [go_sem, Nat.reduceEqDiff, Nat.reduceAdd, Nat.reduceLT, Nat.reduceLeDiff, reduceIte, h0, h1, h7, h8, dec_ge h3]
    rw [← hq]; rfl
  | cons x r =>
    obtain ⟨hk, hd2, hlt⟩ := drop_cons hd
    simp only [go_sem, Nat.reduceEqDiff, Nat.reduceAdd, Nat.reduceLT, Nat.reduceLeDiff, reduceIte, h0, h1, h7, h8, dec_lt hlt, Is_idx hk]
    refine hf x (List.mem_of_getElem? hk) _ _ _ ?_
    cases hx : p x
    · simp only [go_sem, Nat.reduceEqDiff, Nat.reduceAdd, Nat.reduceLT, Nat.reduceLeDiff, reduceIte, h0, h1, h7, h8, wrap_n1 k (by omega)]
      refine Nx_of (k + 1, r) (by simp) ?_
      simp only [go_sem, Nat.reduceEqDiff, Nat.reduceAdd, Nat.reduceLT, Nat.reduceLeDiff, reduceIte, h0, h1, h7]
      exact ⟨trivial, trivial, trivial, trivial, hd2, by rw [← hq]; simp [idxP, hx]⟩
    · simp only [go_sem, Nat.reduceEqDiff, Nat.reduceAdd, Nat.reduceLT, Nat.reduceLeDiff, reduceIte, h0, h1, h7, h8]
      rw [← hq]; simp [idxP, hx]
theorem ContainsFuncI_ok (l : List Int) (f : AV) (p : Int → Bool) (hl : l.length < 1073741824) (hs : ∀ (m : Mem) (q : Nat), snap m (q + 10) f = f) (hh : ∀ q, hot (q + 10) f = false)
    (hf : ∀ x ∈ l, ∀ (e : Nat → AV) (m : Mem) (K : AV → St → Prop), K (.bool (p x)) ⟨e, m⟩ → @WAH ft f [I64 x] ⟨e, m⟩ ⟨K⟩) : RV ft 59 [encIs l, f] (.bool (l.any p)) := by
  refine RV_of ft59 rfl ?_
  simp only [c59, r59]
  simp only [go_sem, Nat.reduceEqDiff, Nat.reduceAdd, Nat.reduceLT, Nat.reduceLeDiff, reduceIte, WB71, hs, hh, WVH_eq (IndexFuncI_ok l f p hl hf), true_and, idxP_any]
theorem IndexFuncP_ok (l : List Pas) (f : AV) (p : Pas → Bool) (hl : l.length < 1073741824)
    (hf : ∀ x ∈ l, ∀ (e : Nat → AV) (m : Mem) (K : AV → St → Prop), K (.bool (p x)) ⟨e, m⟩ → @WAH ft f [encP x] ⟨e, m⟩ ⟨K⟩) : RV ft 72 [encPs l, f] (I64 (idxP p l 0)) := by
  refine RV_of ft72 rfl ?_
  simp only [c72, r72]
  simp only [go_sem, Nat.reduceEqDiff, Nat.reduceAdd, Nat.reduceLT, Nat.reduceLeDiff, reduceIte]
  refine WL_inv (α := Nat × List Pas) (fun q e mm => e 0 = encPs l ∧ e 1 = f ∧ e 7 = I64 l.length ∧ e 8 = I64 q.1 ∧ l.drop q.1 = q.2 ∧ idxP p q.2 q.1 = idxP p l 0) (fun q => q.2.length) (0, l) ?_ ?_
  · simp only [go_sem, Nat.reduceEqDiff, Nat.reduceAdd, Nat.reduceLT, Nat.reduceLeDiff, reduceIte]
    ((repeat' apply And.intro) <;> first | trivial | rfl | omega | assumption)
  rintro ⟨k, r⟩ e m ⟨h0, h1, h7, h8, hd, hq⟩
  dsimp only at h8 hd hq
  cases r with
  | nil =>
    have h3 := drop_nil hd
    simp only [go_sem, Nat.reduceEqDiff, Nat.reduceAdd, Nat.reduceLT, Nat.reduceLeDiff, reduceIte, h0, h1, h7, h8, dec_ge h3]
    rw [← hq]; rfl
  | cons x r =>
    obtain ⟨hk, hd2, hlt⟩ := drop_cons hd
    simp only [go_sem, Nat.reduceEqDiff, Nat.reduceAdd, Nat.reduceLT, Nat.reduceLeDiff, reduceIte, h0, h1, h7, h8, dec_lt hlt, Ps_idx hk]
    refine hf x (List.mem_of_getElem? hk) _ _ _ ?_
    cases hx : p x
    · simp only [go_sem, Nat.reduceEqDiff, Nat.reduceAdd, Nat.reduceLT, Nat.reduceLeDiff, reduceIte, h0, h1, h7, h8, wrap_n1 k (by omega)]
      refine Nx_of (k + 1, r) (by simp) ?_
      simp only [go_sem, Nat.reduceEqDiff, Nat.reduceAdd, Nat.reduceLT, Nat.reduceLeDiff, reduceIte, h0, h1, h7]
      exact ⟨trivial, trivial, trivial, trivial, hd2, by rw [← hq]; simp [idxP, hx]⟩
    · simp only [go_sem, Nat.reduceEqDiff, Nat.reduceAdd, Nat.reduceLT, Nat.reduceLeDiff, reduceIte, h0, h1, h7, h8]
      rw [← hq]; simp [idxP, hx]
theorem ContainsFuncP_ok (l : List Pas) (f : AV) (p : Pas → Bool) (hl : l.length < 1073741824) (hs : ∀ (m : Mem) (q : Nat), snap m (q + 10) f = f) (hh : ∀ q, hot (q + 10) f = false)
    (hf : ∀ x ∈ l, ∀ (e : Nat → AV) (m : Mem) (K : AV → St → Prop), K (.bool (p x)) ⟨e, m⟩ → @WAH ft f [encP x] ⟨e, m⟩ ⟨K⟩) : RV ft 60 [encPs l, f] (.bool (l.any p)) := by
  refine RV_of ft60 rfl ?_
  simp only [c60, r60]
  simp only [go_sem, Nat.reduceEqDiff, Nat.reduceAdd, Nat.reduceLT, Nat.reduceLeDiff, reduceIte, WB72, hs, hh, WVH_eq (IndexFuncP_ok l f p hl hf), true_and, idxP_any]
theorem isWithin_ok (a b c : Int) : RV ft 53 [I64 a, I64 b, I64 c] (.bool (isW a b c)) := by
  refine RV_of ft53 rfl ?_
  simp only [c53, r53]
  unfold isW
  cases h : decide (b ≤ a) <;> simp only [go_sem, Nat.reduceEqDiff, Nat.reduceAdd, Nat.reduceLT, Nat.reduceLeDiff, reduceIte, h]
theorem within_ok (a b c : Int) : RV ft 39 [I64 a, I64 b, I64 c] (.bool (isW a b c)) := by
  refine RV_of ft39 rfl ?_
  simp only [c39, r39]
  unfold isW
  cases h : decide (b ≤ a) <;> simp only [go_sem, Nat.reduceEqDiff, Nat.reduceAdd, Nat.reduceLT, Nat.reduceLeDiff, reduceIte, h]
theorem validPassage_ok (q : Pas) (n : Int) (h0 : 0 ≤ n) (h1 : n ≤ 1000) : RV ft 57 [encP q, I64 n] (.bool (vPas n q)) := by
  refine RV_of ft57 rfl ?_
  simp only [c57, r57]
  have w := wrap_i64 (n - 1) (by omega) (by omega)
  unfold vPas
  cases a1 : isW q.fr 0 (n - 1) <;> cases a2 : (q.to == -1) <;> cases a3 : isW q.to 0 (n - 1) <;> cases a4 : (q.fr != q.to) <;> cases a5 : isW q.wd 0 20 <;>
    simp only [go_sem, Nat.reduceEqDiff, Nat.reduceAdd, Nat.reduceLT, Nat.reduceLeDiff, reduceIte, w, WB53, WVH_eq (isWithin_ok _ _ _), true_and, a1, a2, a3, a4, a5]
theorem f58_ok (x : Int) : RV ft 58 [I64 x] (.bool (!isW x 0 99)) := by
  refine RV_of ft58 rfl ?_
  simp only [c58, r58]
  simp only [go_sem, Nat.reduceEqDiff, Nat.reduceAdd, Nat.reduceLT, Nat.reduceLeDiff, reduceIte, WB53, WVH_eq (isWithin_ok _ _ _), true_and]
theorem f56_ok (q : Pas) (h : Ho) (hl : h.p.length ≤ 40) : RV ft 56 [encP q, .pv (encH h) 0] (.bool (!vPas h.p.length q)) := by
  refine RV_of ft56 rfl ?_
  simp only [c56, r56]
  simp only [go_sem, Nat.reduceEqDiff, Nat.reduceAdd, Nat.reduceLT, Nat.reduceLeDiff, reduceIte, PEta, WB57, WVH_eq (validPassage_ok q h.p.length (by omega) (by omega)), true_and]
theorem validBuilding_ok (h : Ho) (hl : h.p.length ≤ 40) (hs : h.s.length ≤ 40) : RV ft 38 [encH h] (.bool (vHo h)) := by
  refine RV_of ft38 rfl ?_
  simp only [c38, r38]
  have h1 := ContainsFuncI_ok h.p (.fn 58 [] []) (fun x => !isW x 0 99) (by omega) (fun _ _ => rfl) (fun _ => rfl) (fun x hx e m K hK => by
    rw [WAH_fn]
    simp only [go_sem, Nat.reduceEqDiff, Nat.reduceAdd, Nat.reduceLT, Nat.reduceLeDiff, reduceIte, WB58, WVH_eq (f58_ok x), true_and]
    exact hK)
  have h2 := ContainsFuncP_ok h.s (.fn 56 [] [.pv (encH h) 0]) (fun q => !vPas h.p.length q) (by omega) (fun m q => by
    show AV.fn 56 [] [.pv (snap m (q + 8) (encH h)) 0] = _
    rw [show q + 8 = (q + 4) + 4 from rfl, snH]) (fun q => by
    show (false || (hot (q + 8) (encH h) || false)) = false
    rw [show q + 8 = (q + 4) + 4 from rfl, hotH]; rfl) (fun x hx e m K hK => by
    rw [WAH_fn]
    simp only [go_sem, Nat.reduceEqDiff, Nat.reduceAdd, Nat.reduceLT, Nat.reduceLeDiff, reduceIte, WB56, WVH_eq (f56_ok x h hl), true_and]
    exact hK)
  unfold vHo
  cases a1 : isW h.p.length 1 6 <;> cases a2 : (h.p.any fun x => !isW x 0 99) <;> cases a3 : decide ((h.s.length : Int) ≤ 12) <;>
    simp only [go_sem, Nat.reduceEqDiff, Nat.reduceAdd, Nat.reduceLT, Nat.reduceLeDiff, reduceIte, WB53, WVH_eq (isWithin_ok _ _ _), WB59, WVH_eq h1, WB60, WVH_eq h2, true_and, a1, a2, a3]
theorem checkMinute_ok (h : Ho) (hl : h.p.length ≤ 40) (hs : h.s.length ≤ 40) (T : Int) : RV ft 40 [encH h, I64 T] (I64 (errM h T)) := by
  refine RV_of ft40 rfl ?_
  simp only [c40, r40]
  unfold errM
  cases a1 : vHo h <;> cases a2 : isW T 0 60 <;> simp only [go_sem, Nat.reduceEqDiff, Nat.reduceAdd, Nat.reduceLT, Nat.reduceLeDiff, reduceIte, HEta, WB38, WVH_eq (validBuilding_ok h hl hs), WB53, WVH_eq (isWithin_ok _ _ _), true_and, a1, a2, Bool.false_eq_true, if_false, if_true]
theorem Check_ok (h : Ho) (hl : h.p.length ≤ 40) (hs : h.s.length ≤ 40) : RV ft 14 [encH h] (I64 (if vHo h = true then 0 else 110)) := by
  refine RV_of ft14 rfl ?_
  simp only [c14, r14]
  cases a1 : vHo h <;> simp only [go_sem, Nat.reduceEqDiff, Nat.reduceAdd, Nat.reduceLT, Nat.reduceLeDiff, reduceIte, HEta, WB38, WVH_eq (validBuilding_ok h hl hs), true_and, a1, Bool.false_eq_true, if_false, if_true]
theorem late_ok (T : Int) : RV ft 20 [I64 T] (.bool (decide (10 < T) && decide (T ≤ 60))) := by
  refine RV_of ft20 rfl ?_
  simp only [c20, r20]
  cases h : decide (10 < T) <;> simp only [go_sem, Nat.reduceEqDiff, Nat.reduceAdd, Nat.reduceLT, Nat.reduceLeDiff, reduceIte, h]
def hugeB (h : Ho) : Bool := decide (40 < h.p.length) || decide (40 < h.s.length)
theorem huge_ok (h : Ho) : RV ft 11 [encH h] (.bool (hugeB h)) := by
  refine RV_of ft11 rfl ?_
  simp only [c11, r11]
  unfold hugeB
  have e1 : decide (40 < h.p.length) = decide ((40 : Int) < (h.p.length : Int)) := by rw [decide_eq_decide]; omega
  have e2 : decide (40 < h.s.length) = decide ((40 : Int) < (h.s.length : Int)) := by rw [decide_eq_decide]; omega
  rw [e1, e2]
  cases a : decide ((40 : Int) < (h.p.length : Int)) <;> simp only [go_sem, Nat.reduceEqDiff, Nat.reduceAdd, Nat.reduceLT, Nat.reduceLeDiff, reduceIte, a]
end Go.Ab.T
end
