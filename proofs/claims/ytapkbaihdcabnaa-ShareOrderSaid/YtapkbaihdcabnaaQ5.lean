/-
  A part of the proofs over this seat.
  (The texts KsM8 KsM9 KsM10 KsK24 KsK25 KsK26, one behind the other.)
-/
import Derived.Test.YtapkbaihdcabnaaQ4
import Derived.Test.YtapkbaihdcabnaaQ2
import Derived.Test.YtapkbaihdcabnaaP5
import Derived.Test.YtapkbaihdcabnaaB2
set_option linter.unusedSimpArgs false
set_option linter.unusedVariables false
set_option linter.unusedSectionVars false
section
namespace Go.Ab.T
/-! ### Reports, each once -/
theorem clsh_iff : ∀ (l p : List Rp), clsh p l = true ↔ (∃ x ∈ p, ∃ y ∈ l, x.id = y.id ∧ x ≠ y) ∨ (∃ x ∈ l, ∃ y ∈ l, x.id = y.id ∧ x ≠ y)
  | [], p => by
    show (false = true) ↔ _
    simp
  | r :: q, p => by
    rw [clsh_cons', Bool.or_eq_true, clsh_iff q (p ++ [r]), List.any_eq_true]
    have e1 : ∀ x : Rp, (x.id == r.id && !eqR x r) = true ↔ x.id = r.id ∧ x ≠ r := fun x => by
      rw [Bool.and_eq_true, beq_iff_eq, Bool.not_eq_true', ← Bool.not_eq_true, eqR_iff]
    constructor
    · rintro (⟨x, hx, h⟩ | ⟨x, hx, y, hy, h⟩ | ⟨x, hx, y, hy, h⟩)
      · have := (e1 x).1 h
        exact .inl ⟨x, hx, r, by simp, this⟩
      · rcases List.mem_append.1 hx with hx | hx
        · exact .inl ⟨x, hx, y, by simp [hy], h⟩
        · rw [List.mem_singleton] at hx
          subst hx
          exact .inr ⟨x, by simp, y, by simp [hy], h⟩
      · exact .inr ⟨x, by simp [hx], y, by simp [hy], h⟩
    · rintro (⟨x, hx, y, hy, h⟩ | ⟨x, hx, y, hy, h⟩)
      · rcases List.mem_cons.1 hy with rfl | hy
        · exact .inl ⟨x, hx, (e1 x).2 h⟩
        · exact .inr (.inl ⟨x, by simp [hx], y, hy, h⟩)
      · rcases List.mem_cons.1 hx with hx' | hx' <;> rcases List.mem_cons.1 hy with hy' | hy'
        · rw [hx', hy'] at h; exact absurd rfl h.2
        · subst hx'; exact .inr (.inl ⟨x, by simp, y, hy', h⟩)
        · subst hy'; exact .inr (.inl ⟨y, by simp, x, hx', h.1.symm, Ne.symm h.2⟩)
        · exact .inr (.inr ⟨x, hx', y, hy', h⟩)
theorem clsh_nil {l : List Rp} : clsh [] l = true ↔ ∃ x ∈ l, ∃ y ∈ l, x.id = y.id ∧ x ≠ y := by
  rw [clsh_iff]; simp
theorem clsh_no {l : List Rp} (h : clsh [] l = false) : ∀ x ∈ l, ∀ y ∈ l, x.id = y.id → x = y := fun x hx y hy e => by
  refine Classical.byContradiction fun hn => ?_
  have := clsh_nil.2 ⟨x, hx, y, hy, e, hn⟩
  rw [h] at this; cases this
theorem clsh_mem {l l' : List Rp} (h : ∀ x, x ∈ l ↔ x ∈ l') : clsh [] l = clsh [] l' := by
  rw [Bool.eq_iff_iff, clsh_nil, clsh_nil]
  constructor
  · rintro ⟨x, hx, y, hy, e⟩; exact ⟨x, (h x).1 hx, y, (h y).1 hy, e⟩
  · rintro ⟨x, hx, y, hy, e⟩; exact ⟨x, (h x).2 hx, y, (h y).2 hy, e⟩
/-- Without what is equal to the one before it. -/
def stp (acc : List Rp) (x : Rp) : List Rp := match acc.getLast? with
  | some y => if eqR x y = true then acc else acc ++ [x]
  | none => acc ++ [x]
def cmpG (acc l : List Rp) : List Rp := l.foldl stp acc
def cmpF (l : List Rp) : List Rp := cmpG [] l
theorem cmpG_cons (acc : List Rp) (x : Rp) (l : List Rp) : cmpG acc (x :: l) = cmpG (stp acc x) l := rfl
theorem cmpF_snoc (l : List Rp) (x : Rp) : cmpF (l ++ [x]) = stp (cmpF l) x := by
  unfold cmpF cmpG; rw [List.foldl_append]; rfl
theorem stp_last (acc : List Rp) (x : Rp) : (stp acc x).getLast? = some x := by
  unfold stp
  cases h : acc.getLast? with
  | none => simp
  | some y =>
    dsimp only
    split
    · rename_i e; rw [h, eqR_iff.1 e]
    · simp
theorem stp_mem (acc : List Rp) (x a : Rp) : a ∈ stp acc x ↔ a ∈ acc ∨ a = x := by
  unfold stp
  cases h : acc.getLast? with
  | none => simp
  | some y =>
    dsimp only
    split
    · rename_i e
      rw [eqR_iff.1 e]
      exact ⟨.inl, fun h2 => h2.elim id fun h2 => by rw [h2]; exact List.mem_of_getLast? h⟩
    · simp
theorem cmpG_mem : ∀ (l acc : List Rp) (a : Rp), a ∈ cmpG acc l ↔ a ∈ acc ∨ a ∈ l
  | [], acc, a => by show a ∈ acc ↔ _; simp
  | x :: l, acc, a => by
    rw [cmpG_cons, cmpG_mem l, stp_mem, List.mem_cons, or_assoc]
theorem cmpG_asc : ∀ (l acc : List Rp), acc.Pairwise (fun a b => a.id < b.id) → l.Pairwise (fun a b => a.id ≤ b.id) → (∀ a ∈ acc, ∀ x ∈ l, a.id ≤ x.id) → (∀ a ∈ acc, ∀ x ∈ l, a.id = x.id → a = x) → (∀ a ∈ l, ∀ x ∈ l, a.id = x.id → a = x) → (cmpG acc l).Pairwise fun a b => a.id < b.id
  | [], acc, h1, _, _, _, _ => h1
  | x :: l, acc, h1, h2, h3, h4, h5 => by
    rw [cmpG_cons]
    rw [List.pairwise_cons] at h2
    refine cmpG_asc l (stp acc x) ?_ h2.2 (fun a ha y hy => ?_) (fun a ha y hy e => ?_) fun a ha y hy => h5 a (by simp [ha]) y (by simp [hy])
    · unfold stp
      cases hg : acc.getLast? with
      | none =>
        rw [List.getLast?_eq_none_iff] at hg
        subst hg
        simp
      | some y =>
        dsimp only
        split
        · exact h1
        · rename_i hne
          obtain ⟨ys, rfl⟩ := List.getLast?_eq_some_iff.1 hg
          rw [List.pairwise_append]
          refine ⟨h1, by simp, fun a ha z hz => ?_⟩
          rw [List.mem_singleton] at hz
          subst hz
          have h6 := h3 a ha z (by simp)
          by_cases e : a.id = z.id
          · exfalso
            have hy : y ∈ ys ++ [y] := by simp
            have h7 := h3 y hy z (by simp)
            have h8 : a.id ≤ y.id := by
              rcases List.mem_append.1 ha with ha | ha
              · have := (List.pairwise_append.1 h1).2.2 a ha y (by simp); omega
              · rw [List.mem_singleton] at ha; rw [ha]; exact Int.le_refl _
            have h9 := h4 y hy z (by simp) (by omega)
            exact hne (eqR_iff.2 h9.symm)
          · omega
    · rcases (stp_mem acc x a).1 ha with ha | rfl
      · exact h3 a ha y (by simp [hy])
      · exact h2.1 y hy
    · rcases (stp_mem acc x a).1 ha with ha | rfl
      · exact h4 a ha y (by simp [hy]) e
      · exact h5 a (by simp) y (by simp [hy]) e
/-- The first report of a number. -/
def findR (f : Int) : List Rp → Option Rp
  | [] => none
  | r :: l => if (r.id == f) = true then some r else findR f l
theorem findR_mem {f : Int} {r : Rp} : ∀ {l : List Rp}, findR f l = some r → r ∈ l ∧ r.id = f
  | [], h => by cases h
  | x :: l, h => by
    unfold findR at h
    split at h
    · rename_i e
      cases h
      exact ⟨by simp, by simpa using e⟩
    · have := findR_mem h; exact ⟨by simp [this.1], this.2⟩
theorem findR_none {f : Int} : ∀ {l : List Rp}, findR f l = none → ∀ r ∈ l, r.id ≠ f
  | [], _, r, hr => by cases hr
  | x :: l, h, r, hr => by
    unfold findR at h
    split at h
    · cases h
    · rename_i e
      rcases List.mem_cons.1 hr with rfl | hr
      · simpa using e
      · exact findR_none h r hr
def dstG (L : List Rp) : Nat → Int → List Rp
  | 0, _ => []
  | k + 1, f => (match findR f L with | none => [] | some r => [r]) ++ dstG L k (f + 1)
def dst (L : List Rp) : List Rp := dstG L 100 0
theorem dst_flat (L : List Rp) : ∀ (k : Nat) (f : Int) (D : List Rp), D.Pairwise (fun a b => a.id < b.id) → (∀ r ∈ D, f ≤ r.id ∧ r.id < f + k) → (∀ r ∈ D, findR r.id L = some r) → (∀ g r, f ≤ g → g < f + k → findR g L = some r → r ∈ D) → dstG L k f = D
  | 0, f, D, h1, h2, h3, h4 => by
    cases D with
    | nil => rfl
    | cons c D => have := h2 c (by simp); simp at this; omega
  | k + 1, f, D, h1, h2, h3, h4 => by
    unfold dstG
    cases hf : findR f L with
    | none =>
      dsimp only
      rw [List.nil_append]
      refine dst_flat L k (f + 1) D h1 (fun r hr => ?_) h3 fun g r hg hg2 h => h4 g r (by omega) (by omega) h
      have h5 := h2 r hr
      have h6 := h3 r hr
      have : r.id ≠ f := fun e => by rw [e, hf] at h6; cases h6
      omega
    | some r =>
      dsimp only
      have hr := h4 f r (Int.le_refl _) (by omega) hf
      have hid := (findR_mem hf).2
      cases D with
      | nil => cases hr
      | cons c D =>
        rw [List.pairwise_cons] at h1
        have hc := h2 c (by simp)
        have hrc : r = c := by
          rcases List.mem_cons.1 hr with h | h
          · exact h
          · have := h1.1 r h; omega
        subst hrc
        rw [dst_flat L k (f + 1) D h1.2 (fun x hx => by have := h2 x (by simp [hx]); have := h1.1 x hx; omega) (fun x hx => h3 x (by simp [hx])) fun g x hg hg2 h => by
          have h7 := h4 g x (by omega) (by omega) h
          rcases List.mem_cons.1 h7 with h8 | h8
          · subst h8; have := (findR_mem h).2; omega
          · exact h8]
        rfl
/-- What is ascending and holds just the same is what is found number by number. -/
theorem dst_eq {L D : List Rp} (hn : clsh [] L = false) (hi : ∀ r ∈ L, 0 ≤ r.id ∧ r.id ≤ 99) (hm : ∀ x, x ∈ D ↔ x ∈ L) (ha : D.Pairwise fun a b => a.id < b.id) : dst L = D := by
  refine dst_flat L 100 0 D ha (fun r hr => ?_) (fun r hr => ?_) fun g r _ _ h => (hm r).2 (findR_mem h).1
  · have := hi r ((hm r).1 hr); omega
  · have hL := (hm r).1 hr
    cases hf : findR r.id L with
    | none => exact absurd rfl (findR_none hf r hL)
    | some x =>
      have h1 := findR_mem hf
      rw [clsh_no hn x h1.1 r hL h1.2]
/-- Sorted reports, each once. -/
theorem cmpF_dst {L S : List Rp} (hp : S.Perm L) (hs : S.Pairwise fun a b => a.id ≤ b.id) (hn : clsh [] L = false) (hi : ∀ r ∈ L, 0 ≤ r.id ∧ r.id ≤ 99) : cmpF S = dst L := by
  have hc := clsh_no hn
  symm
  refine dst_eq hn hi (fun x => ?_) (cmpG_asc S [] .nil hs (fun a ha => by cases ha) (fun a ha => by cases ha) fun a ha x hx => hc a (hp.mem_iff.1 ha) x (hp.mem_iff.1 hx))
  show x ∈ cmpG [] S ↔ _
  rw [cmpG_mem, hp.mem_iff]; simp
theorem cmpF_clsh {L S : List Rp} (hp : S.Perm L) : clsh [] (cmpF S) = clsh [] L := clsh_mem fun x => by
  show x ∈ cmpG [] S ↔ _
  rw [cmpG_mem, hp.mem_iff]; simp
def zB : Bk := ⟨0, [], []⟩
def mergeM (b : Bk) (more : List Rp) : Bk × Int := if chk b = 0 then (if rsOK b.cs more = true then (if clsh [] (b.rs ++ more) = true then (zB, 81) else if 40 < (dst (b.rs ++ more)).length then (zB, 81) else (⟨b.tax, b.cs, dst (b.rs ++ more)⟩, 0)) else (zB, 81)) else (zB, chk b)
end Go.Ab.T
end

section
namespace Go.Ab.T
/-! ### Number by number -/
/-- What comes of the reference's way. -/
theorem chk_with {b : Bk} (hb : chk b = 0) (l : List Rp) : chk ⟨b.tax, b.cs, l⟩ = if (rsOK b.cs l && !clsh [] l) = true then 0 else 81 := by
  unfold chk
  rw [if_pos (show bkOK ⟨b.tax, b.cs, l⟩ = true from (chk_parts hb).1)]
end Go.Ab.T
end

section
namespace Go.Ab.T
/-! ### In another order -/
def rot {α : Type} (r : Nat) (l : List α) : List α := l.drop r ++ l.take r
theorem rot_perm {α : Type} (r : Nat) (l : List α) : (rot r l).Perm l := by
  unfold rot
  have := List.perm_append_comm (l₁ := l.drop r) (l₂ := l.take r)
  rwa [List.take_append_drop] at this
theorem rot_len {α : Type} (r : Nat) (l : List α) : (rot r l).length = l.length := (rot_perm r l).length_eq
theorem rot_get {α : Type} {l : List α} {k by' : Nat} (hk : k < l.length) : (rot (by' % l.length) l)[k]? = l[(k + by') % l.length]? := by
  have hr : by' % l.length < l.length := Nat.mod_lt _ (by omega)
  have e : (k + by') % l.length = if k + by' % l.length < l.length then k + by' % l.length else k + by' % l.length - l.length := by
    rw [Nat.add_mod, Nat.mod_eq_of_lt hk]
    split
    · rename_i h; exact Nat.mod_eq_of_lt h
    · rename_i h
      rw [Nat.mod_eq_sub_mod (by omega)]
      exact Nat.mod_eq_of_lt (by omega)
  generalize by' % l.length = r at hr e
  rw [e]
  unfold rot
  split
  · rw [List.getElem?_append_left (by rw [List.length_drop]; omega), List.getElem?_drop]
    congr 1; omega
  · rw [List.getElem?_append_right (by rw [List.length_drop]; omega), List.length_drop, List.getElem?_take_of_lt (by omega)]
    congr 1; omega
def itl : List Rp → List Rp → List Rp
  | x :: xs, y :: ys => x :: y :: itl xs ys
  | _, _ => []
theorem itl_snoc (x y : Rp) : ∀ (xs ys : List Rp), xs.length = ys.length → itl (xs ++ [x]) (ys ++ [y]) = itl xs ys ++ [x, y]
  | [], [], _ => rfl
  | a :: xs, b :: ys, h => by
    show a :: b :: itl (xs ++ [x]) (ys ++ [y]) = a :: b :: (itl xs ys ++ [x, y])
    rw [itl_snoc x y xs ys (by simpa using h)]
  | [], _ :: _, h => by cases h
  | _ :: _, [], h => by cases h
theorem itl_mem (a : Rp) : ∀ (xs ys : List Rp), xs.length = ys.length → (a ∈ itl xs ys ↔ a ∈ xs ∨ a ∈ ys)
  | [], [], _ => by show a ∈ [] ↔ _; simp
  | x :: xs, y :: ys, h => by
    show a ∈ x :: y :: itl xs ys ↔ _
    rw [List.mem_cons, List.mem_cons, itl_mem a xs ys (by simpa using h), List.mem_cons, List.mem_cons]
    constructor
    · rintro (h | h | h | h)
      · exact .inl (.inl h)
      · exact .inr (.inl h)
      · exact .inl (.inr h)
      · exact .inr (.inr h)
    · rintro ((h | h) | (h | h))
      · exact .inl h
      · exact .inr (.inr (.inl h))
      · exact .inr (.inl h)
      · exact .inr (.inr (.inr h))
  | [], _ :: _, h => by cases h
  | _ :: _, [], h => by cases h
theorem itl_len : ∀ (xs ys : List Rp), xs.length = ys.length → (itl xs ys).length = 2 * xs.length
  | [], [], _ => rfl
  | x :: xs, y :: ys, h => by
    show (x :: y :: itl xs ys).length = _
    simp only [List.length_cons, itl_len xs ys (by simpa using h)]; omega
  | [], _ :: _, h => by cases h
  | _ :: _, [], h => by cases h
/-- What pick finds. -/
theorem pickG_spec {p : Rp → Bool} : ∀ {l : List Rp} {a : Option Rp} {r : Rp}, pickG p a l = some r → (∀ y, a = some y → y.id ≤ r.id) ∧ ∀ x ∈ l, p x = true → x.id ≤ r.id
  | [], a, r, h => ⟨fun y hy => by
      have h : a = some r := h
      rw [hy] at h; cases h; exact Int.le_refl _, fun x hx => by cases hx⟩
  | x :: l, a, r, h => by
    have h : pickG p (if p x = true then better a x else a) l = some r := h
    obtain ⟨h1, h2⟩ := pickG_spec h
    have h3 : p x = true → x.id ≤ r.id ∧ ∀ y, a = some y → y.id ≤ r.id := fun hp => by
      rw [if_pos hp] at h1
      cases a with
      | none => exact ⟨h1 x rfl, fun y hy => by cases hy⟩
      | some z =>
        have h1 : ∀ y, (if z.id < x.id then some x else some z) = some y → y.id ≤ r.id := h1
        by_cases hz : z.id < x.id
        · have := h1 x (if_pos hz)
          exact ⟨this, fun y hy => by cases hy; omega⟩
        · have := h1 z (if_neg hz)
          exact ⟨by omega, fun y hy => by cases hy; exact this⟩
    refine ⟨fun y hy => ?_, fun z hz hp => ?_⟩
    · by_cases hp : p x = true
      · exact (h3 hp).2 y hy
      · rw [if_neg hp] at h1; exact h1 y hy
    · rcases List.mem_cons.1 hz with rfl | hz
      · exact (h3 hp).1
      · exact h2 z hz hp
theorem pick_same {p : Rp → Bool} {l l' : List Rp} (hm : ∀ x, x ∈ l' ↔ x ∈ l) (hc : ∀ x ∈ l, ∀ y ∈ l, x.id = y.id → x = y) : pick p l' = pick p l := by
  cases h1 : pick p l' with
  | none =>
    cases h2 : pick p l with
    | none => rfl
    | some r =>
      have h3 := pick_mem h2
      have h4 := (pickG_none h1).2 r ((hm r).2 h3.1)
      rw [h3.2] at h4; cases h4
  | some r' =>
    have h3 := pick_mem h1
    cases h2 : pick p l with
    | none =>
      have h4 := (pickG_none h2).2 r' ((hm r').1 h3.1)
      rw [h3.2] at h4; cases h4
    | some r =>
      have h4 := pick_mem h2
      have h5 := (pickG_spec h1).2 r ((hm r).2 h4.1) h4.2
      have h6 := (pickG_spec h2).2 r' ((hm r').1 h3.1) h3.2
      rw [hc r' ((hm r').1 h3.1) r h4.1 (by omega)]
theorem gross_same {l l' : List Rp} (hm : ∀ x, x ∈ l' ↔ x ∈ l) (hc : clsh [] l = false) (f w : Int) : gross l' f w = gross l f w := by
  have h := fun p => pick_same (p := p) hm (clsh_no hc)
  unfold gross
  rw [h]
  cases pick (audP f w) l with
  | some r => rfl
  | none =>
    exact sumT_congr 10 fun t _ => by unfold tilC; rw [h]
theorem onceF_of : ∀ (l p : List Ct), (∀ x ∈ l, ∀ y ∈ p, y.film ≠ x.film) → (l.Pairwise fun a b => a.film ≠ b.film) → onceF p l = true
  | [], p, _, _ => rfl
  | c :: l, p, h1, h2 => by
    rw [List.pairwise_cons] at h2
    show ((findC c.film p).isNone && onceF (p ++ [c]) l) = true
    rw [findC_none.2 (h1 c (by simp)), onceF_of l (p ++ [c]) (fun x hx y hy => by
      rcases List.mem_append.1 hy with hy | hy
      · exact h1 x (by simp [hx]) y hy
      · rw [List.mem_singleton] at hy; rw [hy]; exact h2.1 x hx) h2.2]
    rfl
theorem all_perm {α : Type} {p : α → Bool} {l l' : List α} (h : ∀ x, x ∈ l' ↔ x ∈ l) : l'.all p = l.all p := by
  rw [Bool.eq_iff_iff, List.all_eq_true, List.all_eq_true]
  exact ⟨fun k x hx => k x ((h x).2 hx), fun k x hx => k x ((h x).1 hx)⟩
/-- Books in another order. -/
structure OrdF (b o : Bk) : Prop where
  ok : chk o = 0
  find : ∀ f, findC f o.cs = findC f b.cs
  acc : ∀ c w, acc o c w = acc b c w
  due : ∀ c w, dueM o c w = dueM b c w
theorem ordF {b : Bk} (h0 : chk b = 0) {C : List Ct} {R : List Rp} (hC : C.Perm b.cs) (hR : ∀ x, x ∈ R ↔ x ∈ b.rs) (hl : R.length ≤ 40) : OrdF b ⟨b.tax, C, R⟩ := by
  have hb := chk_BV h0
  have hd := hb.dist
  have hf : ∀ f, findC f C = findC f b.cs := fun f => (findC_perm hC hd f).symm
  have hacc : ∀ c w, Go.Ab.T.acc ⟨b.tax, C, R⟩ c w = Go.Ab.T.acc b c w := fun c w => by
    show settle b.tax c w (gross R c.film w) = settle b.tax c w (gross b.rs c.film w)
    rw [gross_same hR hb.rc]
  have hsh : ∀ c n, shSum ⟨b.tax, C, R⟩ c n = shSum b c n := fun c n => by
    induction n with
    | zero => rfl
    | succ n ih => unfold shSum; rw [ih, hacc]
  refine ⟨?_, hf, hacc, fun c w => by unfold dueM; rw [hsh, hsh]⟩
  refine chk_eq0 ?_ ?_ ?_
  · have := (chk_parts h0).1
    unfold bkOK at this ⊢
    simp only [Bool.and_eq_true] at this ⊢
    refine ⟨this.1, ?_, ?_, onceF_of C [] (fun x _ y hy => by cases hy) (hC.symm.pairwise hd fun h => Ne.symm h)⟩
    · rw [hC.length_eq]; exact this.2.1
    · rw [all_perm fun x => hC.mem_iff]; exact this.2.2.1
  · unfold rsOK
    rw [Bool.and_eq_true]
    refine ⟨decide_eq_true (by show (R.length : Int) ≤ 40; omega), ?_⟩
    show R.all (rpOK C) = true
    have e : rpOK C = rpOK b.cs := funext fun r => by unfold rpOK; rw [hf]
    rw [e, all_perm hR, List.all_eq_true]
    exact hb.ro
  · show clsh [] R = false
    rw [clsh_mem hR]; exact hb.rc
theorem dst_short {b : Bk} (h0 : chk b = 0) {S : List Rp} (hp : S.Perm b.rs) (hs : S.Pairwise fun a b => a.id ≤ b.id) : (dst b.rs).length ≤ b.rs.length := by
  have hb := chk_BV h0
  rw [← cmpF_dst hp hs hb.rc fun r hr => by have := hb.rv r hr; exact ⟨this.i0, this.i1⟩, ← hp.length_eq]
  have key : ∀ (l acc : List Rp), (cmpG acc l).length ≤ acc.length + l.length := by
    intro l
    induction l with
    | nil => intro acc; exact Nat.le_refl _
    | cons x l ih =>
      intro acc
      rw [cmpG_cons]
      have h1 := ih (stp acc x)
      have h2 : (stp acc x).length ≤ acc.length + 1 := by
        unfold stp
        split
        · split
          · omega
          · simp
        · simp
      rw [List.length_cons]; omega
  have := key S []
  rw [List.length_nil, Nat.zero_add] at this
  exact this
theorem rsOK_sub {cs : List Ct} {l l' : List Rp} (h : rsOK cs l = true) (hs : ∀ x ∈ l', x ∈ l) (hl : l'.length ≤ l.length) : rsOK cs l' = true := by
  unfold rsOK at h ⊢
  simp only [Bool.and_eq_true, decide_eq_true_eq, List.all_eq_true] at h ⊢
  exact ⟨by omega, fun x hx => h.2 x (hs x hx)⟩
theorem clsh_sub {l l' : List Rp} (h : clsh [] l = false) (hs : ∀ x ∈ l', x ∈ l) : clsh [] l' = false := by
  cases hq : clsh [] l'
  · rfl
  · obtain ⟨x, hx, y, hy, e⟩ := clsh_nil.1 hq
    have := clsh_nil.2 ⟨x, hs x hx, y, hs y hy, e⟩
    rw [h] at this; cases this
/-- Whatever comes late. -/
theorem merge_cut {b : Bk} (h0 : chk b = 0) {S : List Rp} (hp : S.Perm b.rs) (hs : S.Pairwise fun a b => a.id ≤ b.id) (k : Nat) : mergeM ⟨b.tax, b.cs, b.rs.take k⟩ (b.rs.drop k) = (⟨b.tax, b.cs, dst b.rs⟩, 0) := by
  have hb := chk_BV h0
  have hr := (chk_parts h0).2.1
  have h1 : chk ⟨b.tax, b.cs, b.rs.take k⟩ = 0 := by
    rw [chk_with h0, rsOK_sub hr (fun x hx => List.mem_of_mem_take hx) (by rw [List.length_take]; omega), clsh_sub hb.rc fun x hx => List.mem_of_mem_take hx]
    rfl
  have h2 := dst_short h0 hp hs
  have hl := hb.rl
  unfold mergeM
  rw [if_pos h1]
  dsimp only
  rw [if_pos (rsOK_sub hr (fun x hx => List.mem_of_mem_drop hx) (by rw [List.length_drop]; omega)), List.take_append_drop, hb.rc, if_neg (by decide), if_neg (by omega)]
theorem merge_nil {b : Bk} (h0 : chk b = 0) {S : List Rp} (hp : S.Perm b.rs) (hs : S.Pairwise fun a b => a.id ≤ b.id) : mergeM b [] = (⟨b.tax, b.cs, dst b.rs⟩, 0) := by
  have := merge_cut h0 hp hs b.rs.length
  rwa [List.take_length, List.drop_length] at this
end Go.Ab.T
end

section
namespace Go.Ab.T
set_option maxRecDepth 8000
set_option maxHeartbeats 4000000
theorem CloneI_ok (l : List Int) (hl : l.length ≤ 1000) : RV ft 82 [encIs l] (encIs l) := by
  refine RV_of ft82 rfl ?_
  simp only [c82, r82]
  simp only [go_sem, Nat.reduceEqDiff, Nat.reduceAdd, Nat.reduceLT, Nat.reduceLeDiff, reduceIte]
  refine W_nilq ?_
  simp only [go_sem, Nat.reduceEqDiff, Nat.reduceAdd, Nat.reduceLT, Nat.reduceLeDiff, reduceIte]
  cases l with
  | cons x r =>
    refine .inl ⟨I64 x, r.map I64, .unk, rfl, ?_⟩
    simp only [go_sem, Nat.reduceEqDiff, Nat.reduceAdd, Nat.reduceLT, Nat.reduceLeDiff, reduceIte]
    show @OptH _ (appendAt _ false (.sl [] .tight) (.sl ((x :: r).map I64) .unk) 3 1 8) ⟨_⟩
    refine AppV.copy (T := 3) (ys := (x :: r).map I64) (hdSz_map' I64 1 _ fun _ => rfl) (by rw [List.length_map]; unfold limit; omega) fun v1 toks1 hv1 _ _ => ?_
    obtain ⟨k1, rfl⟩ := hv1.sl
    simp only [go_sem, Nat.reduceEqDiff, Nat.reduceAdd, Nat.reduceLT, Nat.reduceLeDiff, reduceIte]
    show AV.sl (((x :: r).map I64).map (snap _ 11)) .unk = _
    rw [List.map_map, show snap _ 11 ∘ I64 = I64 from funext fun t => rfl]; rfl
  | nil =>
    have ha : appendAt ⟨[], []⟩ false (.sl [] .tight) (encIs []) 3 1 8 = some (.sl [] .tight, ⟨[], []⟩) := rfl
    refine .inr (.inr ⟨.unk, .ret, (⟨upd (entry [encIs []]) 2 (.sl [] .tight), ⟨[], []⟩⟩ : St).forget [3, 4, 5, 6, 7], rfl, ?_, fun b => ?_⟩)
    · show Fin _ _ _ _
      simp only [go_sem, Nat.reduceEqDiff, Nat.reduceAdd, Nat.reduceLT, Nat.reduceLeDiff, reduceIte]
      rfl
    · cases b
      · simp only [go_sem, Nat.reduceEqDiff, Nat.reduceAdd, Nat.reduceLT, Nat.reduceLeDiff, reduceIte, ha]
        refine ⟨trivial, ?_⟩
        show St.mk _ _ = St.mk _ _
        congr 1
        funext t
        match t with
        | 0 => rfl
        | 1 => rfl
        | 2 => rfl
        | 3 => rfl
        | 4 => rfl
        | 5 => rfl
        | 6 => rfl
        | 7 => rfl
        | n + 8 => rfl
      · simp only [go_sem, Nat.reduceEqDiff, Nat.reduceAdd, Nat.reduceLT, Nat.reduceLeDiff, reduceIte]
        refine ⟨trivial, ?_⟩
        show St.mk _ _ = St.mk _ _
        congr 1
        funext t
        match t with
        | 0 => rfl
        | 1 => rfl
        | 2 => rfl
        | 3 => rfl
        | 4 => rfl
        | 5 => rfl
        | 6 => rfl
        | 7 => rfl
        | n + 8 => rfl
theorem CloneT_ok (l : List Ti) (hl : l.length ≤ 1000) : RV ft 83 [encTs l] (encTs l) := by
  refine RV_of ft83 rfl ?_
  simp only [c83, r83]
  simp only [go_sem, Nat.reduceEqDiff, Nat.reduceAdd, Nat.reduceLT, Nat.reduceLeDiff, reduceIte]
  refine W_nilq ?_
  simp only [go_sem, Nat.reduceEqDiff, Nat.reduceAdd, Nat.reduceLT, Nat.reduceLeDiff, reduceIte]
  cases l with
  | cons x r =>
    refine .inl ⟨encT x, r.map encT, .unk, rfl, ?_⟩
    simp only [go_sem, Nat.reduceEqDiff, Nat.reduceAdd, Nat.reduceLT, Nat.reduceLeDiff, reduceIte]
    show @OptH _ (appendAt _ false (.sl [] .tight) (.sl ((x :: r).map encT) .unk) 47 2 16) ⟨_⟩
    refine AppV.copy (T := 47) (ys := (x :: r).map encT) (hdSz_map' encT 2 _ fun _ => rfl) (by rw [List.length_map]; unfold limit; omega) fun v1 toks1 hv1 _ _ => ?_
    obtain ⟨k1, rfl⟩ := hv1.sl
    simp only [go_sem, Nat.reduceEqDiff, Nat.reduceAdd, Nat.reduceLT, Nat.reduceLeDiff, reduceIte]
    show AV.sl (((x :: r).map encT).map (snap _ 11)) .unk = _
    rw [List.map_map, show snap _ 11 ∘ encT = encT from funext fun t => rfl]; rfl
  | nil =>
    have ha : appendAt ⟨[], []⟩ false (.sl [] .tight) (encTs []) 47 2 16 = some (.sl [] .tight, ⟨[], []⟩) := rfl
    refine .inr (.inr ⟨.unk, .ret, (⟨upd (entry [encTs []]) 2 (.sl [] .tight), ⟨[], []⟩⟩ : St).forget [3, 4, 5, 6, 7], rfl, ?_, fun b => ?_⟩)
    · show Fin _ _ _ _
      simp only [go_sem, Nat.reduceEqDiff, Nat.reduceAdd, Nat.reduceLT, Nat.reduceLeDiff, reduceIte]
      rfl
    · cases b
      · simp only [go_sem, Nat.reduceEqDiff, Nat.reduceAdd, Nat.reduceLT, Nat.reduceLeDiff, reduceIte, ha]
        refine ⟨trivial, ?_⟩
        show St.mk _ _ = St.mk _ _
        congr 1
        funext t
        match t with
        | 0 => rfl
        | 1 => rfl
        | 2 => rfl
        | 3 => rfl
        | 4 => rfl
        | 5 => rfl
        | 6 => rfl
        | 7 => rfl
        | n + 8 => rfl
      · simp only [go_sem, Nat.reduceEqDiff, Nat.reduceAdd, Nat.reduceLT, Nat.reduceLeDiff, reduceIte]
        refine ⟨trivial, ?_⟩
        show St.mk _ _ = St.mk _ _
        congr 1
        funext t
        match t with
        | 0 => rfl
        | 1 => rfl
        | 2 => rfl
        | 3 => rfl
        | 4 => rfl
        | 5 => rfl
        | 6 => rfl
        | 7 => rfl
        | n + 8 => rfl
theorem wC4 (c : Ct) (v : AV) : writeCells (encC c) 4 [v] = some (.agg [I64 c.film, I64 c.fi, I64 c.la, encIs c.st, v, I64 c.nut, I64 c.ov, I64 c.fl, I64 c.gu]) := rfl
theorem copyContracts_ok (l : List Ct) (hl : l.length ≤ 1000) (hs : ∀ c ∈ l, c.st.length ≤ 1000 ∧ c.ti.length ≤ 1000) : RV ft 52 [encCs l] (encCs l) := by
  refine RV_of ft52 rfl ?_
  simp only [c52, r52]
  simp only [go_sem, Nat.reduceEqDiff, Nat.reduceAdd, Nat.reduceLT, Nat.reduceLeDiff, reduceIte, WB81]
  refine WR_mono (CloneC_run l (by omega)) fun v m h => ?_
  rcases h with ⟨rfl, rfl, rfl⟩ | ⟨hne, rfl, rfl⟩
  · simp only [go_sem, Nat.reduceEqDiff, Nat.reduceAdd, Nat.reduceLT, Nat.reduceLeDiff, reduceIte, hotCs]
    refine ⟨trivial, ?_⟩
    rw [show Ab.shift 0 0 12 (.sl [] .tight) = .sl [] .tight from rfl, show joinMem ⟨[], []⟩ ⟨[], []⟩ 12 = ⟨[], []⟩ from rfl]
    simp only [go_sem, Nat.reduceEqDiff, Nat.reduceAdd, Nat.reduceLT, Nat.reduceLeDiff, reduceIte]
    refine WL_inv (α := Unit) (fun _ e mm => e 0 = .sl [] .tight ∧ e 7 = I64 0 ∧ e 8 = I64 0 ∧ mm = ⟨[], []⟩) (fun _ => 0) () ?_ ?_
    · simp only [go_sem, Nat.reduceEqDiff, Nat.reduceAdd, Nat.reduceLT, Nat.reduceLeDiff, reduceIte, List.length_nil]
      exact ⟨rfl, rfl, trivial, rfl⟩
    rintro _ e m ⟨g0, g7, g8, rfl⟩
    simp only [go_sem, Nat.reduceEqDiff, Nat.reduceAdd, Nat.reduceLT, Nat.reduceLeDiff, reduceIte, g0, g7, g8, show decide ((0 : Int) < 0) = false from rfl]
    rfl
  · have hsh : (l.map encC).map (Ab.shift 0 0 12) = l.map encC := by
      rw [List.map_map, show Ab.shift 0 0 12 ∘ encC = encC from funext fun c => shC 0 0 8 c]
    have e0 : Ab.shift 0 0 12 (.ref 0 0 l.length) = .ref 0 0 l.length := by show AV.ref (0 + 0) 0 l.length = _; rfl
    have em : joinMem ⟨[], []⟩ ⟨[.live (l.map encC) 9], []⟩ 12 = ⟨[.live (l.map encC) 9], []⟩ := by
      show Mem.mk [.live ((l.map encC).map (Ab.shift 0 0 12)) 9] [] = _
      rw [hsh]
    simp only [go_sem, Nat.reduceEqDiff, Nat.reduceAdd, Nat.reduceLT, Nat.reduceLeDiff, reduceIte, hotCs]
    rw [e0, em]
    refine ⟨trivial, ?_⟩
    have hlen : lenAt ⟨[.live (l.map encC) 9], []⟩ (.ref 0 0 l.length) = some (I64 l.length) := rfl
    simp only [go_sem, Nat.reduceEqDiff, Nat.reduceAdd, Nat.reduceLT, Nat.reduceLeDiff, reduceIte, hlen]
    refine WL_inv (α := Nat × List Ct) (fun q e mm => e 0 = .ref 0 0 l.length ∧ e 7 = I64 l.length ∧ e 8 = I64 q.1 ∧ l.drop q.1 = q.2 ∧ mm = ⟨[.live (l.map encC) 9], []⟩) (fun q => q.2.length) (0, l) ?_ ?_
    · simp only [go_sem, Nat.reduceEqDiff, Nat.reduceAdd, Nat.reduceLT, Nat.reduceLeDiff, reduceIte]
      exact ⟨e0, trivial, rfl, trivial, em⟩
    rintro ⟨k, r⟩ e m ⟨g0, g7, g8, hd, rfl⟩
    dsimp only at g8 hd
    cases r with
    | nil =>
      have h3 := drop_nil hd
      simp only [go_sem, Nat.reduceEqDiff, Nat.reduceAdd, Nat.reduceLT, Nat.reduceLeDiff, reduceIte, g0, g7, g8, dec_ge h3]
      have e : snap ⟨[.live (l.map encC) 9], []⟩ 12 (.ref 0 0 l.length) = encCs l := by
        simp only [snap_ref, elems_ref, List.getElem?_cons_zero, elBlk_live]
        rw [if_pos (by simp), List.drop_zero, show l.length = (l.map encC).length by simp, List.take_length]
        show AV.sl ((l.map encC).map (snap _ 11)) .unk = _
        rw [List.map_map, show snap _ 11 ∘ encC = encC from funext fun c => snC _ 7 c]; rfl
      exact e
    | cons x r =>
      obtain ⟨hk, hd2, hlt⟩ := drop_cons hd
      have hx := hs x (List.mem_of_getElem? hk)
      have hg : (l.map encC)[k]? = some (encC x) := by rw [List.getElem?_map, hk]; rfl
      have hset : (l.map encC).set k (encC x) = l.map encC := by
        refine List.ext_getElem? fun i => ?_
        by_cases hi : k = i
        · subst hi; rw [List.getElem?_set_self (by simpa using hlt), hg]
        · rw [List.getElem?_set_ne hi]
      have hi : idxAt ⟨[.live (l.map encC) 9], []⟩ (.ref 0 0 l.length) (I64 (k : Int)) 9 = some (.ptr 0 k 0) := by
        rw [idxAt_ref, if_pos ⟨⟨by omega, by omega⟩, rfl⟩]; simp
      have l3 : loadAt ⟨[.live (l.map encC) 9], []⟩ (.ptr 0 k 3) none = some (encIs x.st) := by
        rw [loadAt_ptr]
        simp only [List.getElem?_cons_zero, ldBlk_live, hg, ldEl_some]
        rfl
      have l4 : loadAt ⟨[.live (l.map encC) 9], []⟩ (.ptr 0 k 4) none = some (encTs x.ti) := by
        rw [loadAt_ptr]
        simp only [List.getElem?_cons_zero, ldBlk_live, hg, ldEl_some]
        rfl
      have st3 : storeAt ⟨[.live (l.map encC) 9], []⟩ (.ptr 0 k 3) (encIs x.st) 1 = some ⟨[.live (l.map encC) 9], []⟩ := by
        rw [storeAt_ptr]
        simp only [List.getElem?_cons_zero, stBlk_live, hg, stEl_some]
        rw [if_pos ⟨rfl, rfl⟩, show (encIs x.st).cells = [encIs x.st] from rfl, wC3]
        show some (Mem.mk [.live ((l.map encC).set k (encC x)) 9] []) = _
        rw [hset]
      have st4 : storeAt ⟨[.live (l.map encC) 9], []⟩ (.ptr 0 k 4) (encTs x.ti) 1 = some ⟨[.live (l.map encC) 9], []⟩ := by
        rw [storeAt_ptr]
        simp only [List.getElem?_cons_zero, stBlk_live, hg, stEl_some]
        rw [if_pos ⟨rfl, rfl⟩, show (encTs x.ti).cells = [encTs x.ti] from rfl, wC4]
        show some (Mem.mk [.live ((l.map encC).set k (encC x)) 9] []) = _
        rw [hset]
      simp only [go_sem, Nat.reduceEqDiff, Nat.reduceAdd, Nat.reduceLT, Nat.reduceLeDiff, reduceIte, g0, g7, g8, dec_lt hlt, hi, l3, l4, st3, st4, WB82, WVH_eq (CloneI_ok x.st hx.1), WB83, WVH_eq (CloneT_ok x.ti hx.2), true_and, wrap_n1 k (by omega)]
      refine Nx_of (k + 1, r) (by simp) ?_
      simp only [go_sem, Nat.reduceEqDiff, Nat.reduceAdd, Nat.reduceLT, Nat.reduceLeDiff, reduceIte, g0, g7]
      exact ⟨trivial, trivial, trivial, hd2, trivial⟩
end Go.Ab.T
end

section
namespace Go.Ab.T
set_option maxRecDepth 8000
set_option maxHeartbeats 4000000
def zRv : AV := .agg [.int .i64 0, .int .i64 0, .int .i64 0, .int .i64 0, .int .i64 0, .int .i64 0]
theorem Grow_run (n : Nat) (hn : n ≤ 10000) (bl : List Blk) (tk : List (Nat × Nat)) (K : AV → Mem → Prop) (h0 : n = 0 → K (.sl [] .tight) ⟨bl, tk⟩) (h1 : 0 < n → K (.ref bl.length 0 0) ⟨bl ++ [.live (List.replicate n zRv) 6], tk⟩) : WR ft (.f 99) [.sl [] .tight, I64 (n : Int)] ⟨bl, tk⟩ K := by
  rw [WR_f ft99 rfl]
  simp only [c99, r99]
  have c1 : decide ((n : Int) < 0) = false := dec_nn n
  have w1 : IntKind.i64.wrap (((0 : Nat) : Int) - ((0 : Nat) : Int)) = 0 := rfl
  have w2 : IntKind.i64.wrap ((n : Int) - 0) = n := by rw [Int.sub_zero]; exact wrap_i64 _ (by omega) (by omega)
  by_cases hz : n = 0
  · have c2 : decide ((0 : Int) < (n : Int)) = false := decide_eq_false (by omega)
    simp only [go_sem, Nat.reduceEqDiff, Nat.reduceAdd, Nat.reduceLT, Nat.reduceLeDiff, reduceIte, c1, w1, w2, c2]
    exact h0 hz
  · have c2 : decide ((0 : Int) < (n : Int)) = true := decide_eq_true (by omega)
    have s1 : sliceAt ⟨bl, tk⟩ (.sl [] .tight) none (some (I64 ((0 : Nat) : Int))) 6 = some (.sl [] .tight) := rfl
    have s2 : appendZ ⟨bl, tk⟩ (.sl [] .tight) (I64 (n : Int)) zRv 6 48 = some (.ref bl.length 0 n, ⟨bl ++ [.live (List.replicate n zRv) 6], tk⟩) := by
      show (if (0 < (n : Int) ∧ (n : Int).toNat * (48 + 1) ≤ limit) ∧ zRv.cells.length = 6 ∧ zRv.solids = true then _ else none) = _
      rw [if_pos ⟨⟨by omega, by unfold limit; omega⟩, rfl, rfl⟩, Int.toNat_natCast]; rfl
    have s3 : sliceAt ⟨bl ++ [.live (List.replicate n zRv) 6], tk⟩ (.ref bl.length 0 n) none (some (I64 ((0 : Nat) : Int))) 6 = some (.ref bl.length 0 0) := by
      have hl : lsz ⟨bl ++ [.live (List.replicate n zRv) 6], tk⟩ bl.length = some 6 := by simp [lsz]
      simp only [sliceAt, hl, if_true]
      simp [bounds, asInt]
    unfold zRv at s2 s3 h1
    simp only [go_sem, Nat.reduceEqDiff, Nat.reduceAdd, Nat.reduceLT, Nat.reduceLeDiff, reduceIte, c1, w1, w2, c2, s1, s2, s3]
    exact h1 (by omega)
theorem appOwn {es : List AV} {len : Nat} {l : List Rp} (hlen : len + l.length ≤ es.length) (hh : hdSz es 6 = true) (hl : l.length ≤ 10000) (h10 : es.length ≤ 20000) :
    appendAt ⟨[.live es 6], []⟩ true (.ref 0 0 len) (encRs l) 52 6 48 = some (.ref 0 0 (len + l.length), ⟨[.live (es.take len ++ l.map encR ++ es.drop (len + l.length)) 6], []⟩) := by
  have h1 : hdSz (l.map encR) 6 = true := hdSz_map' encR 6 _ fun _ => rfl
  show appendAt ⟨[.live es 6], []⟩ true (.ref 0 0 len) (.sl (l.map encR) .unk) 52 6 48 = _
  simp only [appendAt, Mem.elems, h1, List.getElem?_cons_zero, List.length_map]
  rw [if_neg (by simp), if_neg (by simp), if_pos ⟨trivial, hlen⟩]
  rfl
theorem ix2_0 (m : Mem) (a b : List Rp) (tk : Tk) : idxAt m (.sl [encRs a, encRs b] tk) (I64 ((0 : Nat) : Int)) 1 = some (.pv (encRs a) 0) := by
  rw [idxAt_sl, if_pos (by omega)]; rfl
theorem ix2_1 (m : Mem) (a b : List Rp) (tk : Tk) : idxAt m (.sl [encRs a, encRs b] tk) (I64 ((1 : Nat) : Int)) 1 = some (.pv (encRs b) 0) := by
  rw [idxAt_sl, if_pos (by omega)]; rfl
theorem Concat_run (l1 l2 : List Rp) (h1 : l1.length ≤ 1000) (h2 : l2.length ≤ 1000) : WR ft (.f 76) [.sl [encRs l1, encRs l2] .unk] .nil fun v m => (l1 ++ l2 = [] ∧ v = .sl [] .tight ∧ m = ⟨[], []⟩) ∨ (l1 ++ l2 ≠ [] ∧ v = .ref 0 0 (l1 ++ l2).length ∧ m = ⟨[.live ((l1 ++ l2).map encR) 6], []⟩) := by
  rw [WR_f ft76 rfl]
  simp only [c76, r76]
  simp only [go_sem, Nat.reduceEqDiff, Nat.reduceAdd, Nat.reduceLT, Nat.reduceLeDiff, reduceIte]
  refine WL_inv (α := Nat) (fun q e mm => e 0 = .sl [encRs l1, encRs l2] .unk ∧ e 3 = I64 ((if q = 0 then 0 else if q = 1 then l1.length else l1.length + l2.length : Nat) : Int) ∧ e 9 = .sl [encRs l1, encRs l2] .unk ∧ e 10 = I64 ((2 : Nat) : Int) ∧ e 11 = I64 q ∧ q ≤ 2 ∧ mm = ⟨[], []⟩) (fun q => 2 - q) 0 ?_ ?_
  · simp only [go_sem, Nat.reduceEqDiff, Nat.reduceAdd, Nat.reduceLT, Nat.reduceLeDiff, reduceIte, List.length_cons, List.length_nil]
    try ((repeat' apply And.intro) <;> first | trivial | rfl | omega | assumption)
  rintro q e m ⟨g0, g3, g9, g10, g11, hq, rfl⟩
  rcases (by omega : q = 0 ∨ q = 1 ∨ q = 2) with rfl | rfl | rfl
  · have c1 : decide (((0 : Nat) : Int) < ((2 : Nat) : Int)) = true := rfl
    have g3 : e 3 = I64 ((0 : Nat) : Int) := g3
    have w1 : IntKind.i64.wrap (((0 : Nat) : Int) + (l1.length : Int)) = (l1.length : Int) := by rw [wrap_i64 _ (by omega) (by omega)]; omega
    have w2 : IntKind.i64.wrap (((0 : Nat) : Int) + 1) = ((1 : Nat) : Int) := rfl
    have d1 : decide ((l1.length : Int) < 0) = false := dec_nn _
    simp only [go_sem, Nat.reduceEqDiff, Nat.reduceAdd, Nat.reduceLT, Nat.reduceLeDiff, reduceIte, g0, g3, g9, g10, g11, c1, ix2_0, w1, w2, d1]
    refine Nx_of 1 (by omega) ?_
    simp only [go_sem, Nat.reduceEqDiff, Nat.reduceAdd, Nat.reduceLT, Nat.reduceLeDiff, reduceIte, g0, g9, g10]
    try ((repeat' apply And.intro) <;> first | trivial | rfl | omega | assumption)
  · have c1 : decide (((1 : Nat) : Int) < ((2 : Nat) : Int)) = true := rfl
    have g3 : e 3 = I64 ((l1.length : Nat) : Int) := g3
    have w1 : IntKind.i64.wrap ((l1.length : Int) + (l2.length : Int)) = ((l1.length + l2.length : Nat) : Int) := by rw [wrap_i64 _ (by omega) (by omega)]; omega
    have w2 : IntKind.i64.wrap (((1 : Nat) : Int) + 1) = ((2 : Nat) : Int) := rfl
    have d1 : decide (((l1.length + l2.length : Nat) : Int) < 0) = false := dec_nn _
    simp only [go_sem, Nat.reduceEqDiff, Nat.reduceAdd, Nat.reduceLT, Nat.reduceLeDiff, reduceIte, g0, g3, g9, g10, g11, c1, ix2_1, w1, w2, d1]
    refine Nx_of 2 (by omega) ?_
    simp only [go_sem, Nat.reduceEqDiff, Nat.reduceAdd, Nat.reduceLT, Nat.reduceLeDiff, reduceIte, g0, g9, g10]
    try ((repeat' apply And.intro) <;> first | trivial | rfl | omega | assumption)
  have c1 : decide (((2 : Nat) : Int) < ((2 : Nat) : Int)) = false := rfl
  have g3 : e 3 = I64 ((l1.length + l2.length : Nat) : Int) := g3
  simp only [go_sem, Nat.reduceEqDiff, Nat.reduceAdd, Nat.reduceLT, Nat.reduceLeDiff, reduceIte, g0, g3, g9, g10, g11, c1, WB99]
  have hz : hdSz (List.replicate (l1.length + l2.length) zRv) 6 = true := by
    cases l1.length + l2.length with
    | zero => rfl
    | succ n => rfl
  refine Grow_run (l1.length + l2.length) (by omega) [] [] _ (fun h0 => ?_) fun h0 => ?_
  · obtain rfl : l1 = [] := List.eq_nil_of_length_eq_zero (by omega)
    obtain rfl : l2 = [] := List.eq_nil_of_length_eq_zero (by omega)
    simp only [go_sem, Nat.reduceEqDiff, Nat.reduceAdd, Nat.reduceLT, Nat.reduceLeDiff, reduceIte, g0]
    refine WL_inv (α := Nat) (fun q e mm => e 6 = .sl [] .tight ∧ e 25 = .sl [encRs [], encRs []] .unk ∧ e 26 = I64 ((2 : Nat) : Int) ∧ e 27 = I64 q ∧ q ≤ 2 ∧ mm = ⟨[], []⟩) (fun q => 2 - q) 0 ?_ ?_
    · simp only [go_sem, Nat.reduceEqDiff, Nat.reduceAdd, Nat.reduceLT, Nat.reduceLeDiff, reduceIte, List.length_cons, List.length_nil]
      try ((repeat' apply And.intro) <;> first | trivial | rfl | omega | assumption)
    rintro q e m ⟨g6, g25, g26, g27, hq, rfl⟩
    have ha : appendAt ⟨[], []⟩ true (.sl [] .tight) (encRs []) 52 6 48 = some (.sl [] .tight, ⟨[], []⟩) := rfl
    rcases (by omega : q = 0 ∨ q = 1 ∨ q = 2) with rfl | rfl | rfl
    · have c1 : decide (((0 : Nat) : Int) < ((2 : Nat) : Int)) = true := rfl
      have w2 : IntKind.i64.wrap (((0 : Nat) : Int) + 1) = ((1 : Nat) : Int) := rfl
      simp only [go_sem, Nat.reduceEqDiff, Nat.reduceAdd, Nat.reduceLT, Nat.reduceLeDiff, reduceIte, g6, g25, g26, g27, c1, ix2_0, w2, ha]
      refine Nx_of 1 (by omega) ?_
      simp only [go_sem, Nat.reduceEqDiff, Nat.reduceAdd, Nat.reduceLT, Nat.reduceLeDiff, reduceIte, g6, g25, g26]
      try ((repeat' apply And.intro) <;> first | trivial | rfl | omega | assumption)
    · have c1 : decide (((1 : Nat) : Int) < ((2 : Nat) : Int)) = true := rfl
      have w2 : IntKind.i64.wrap (((1 : Nat) : Int) + 1) = ((2 : Nat) : Int) := rfl
      simp only [go_sem, Nat.reduceEqDiff, Nat.reduceAdd, Nat.reduceLT, Nat.reduceLeDiff, reduceIte, g6, g25, g26, g27, c1, ix2_1, w2, ha]
      refine Nx_of 2 (by omega) ?_
      simp only [go_sem, Nat.reduceEqDiff, Nat.reduceAdd, Nat.reduceLT, Nat.reduceLeDiff, reduceIte, g6, g25, g26]
      try ((repeat' apply And.intro) <;> first | trivial | rfl | omega | assumption)
    · have c1 : decide (((2 : Nat) : Int) < ((2 : Nat) : Int)) = false := rfl
      simp only [go_sem, Nat.reduceEqDiff, Nat.reduceAdd, Nat.reduceLT, Nat.reduceLeDiff, reduceIte, g6, g25, g26, g27, c1]
      simp
  · simp only [go_sem, Nat.reduceEqDiff, Nat.reduceAdd, Nat.reduceLT, Nat.reduceLeDiff, reduceIte, g0]
    have hne : l1 ++ l2 ≠ [] := fun h => by have h5 := congrArg List.length h; rw [List.length_append, List.length_nil] at h5; omega
    obtain ⟨R, hR⟩ : ∃ R, R = List.replicate (l1.length + l2.length) zRv := ⟨_, rfl⟩
    have hRl : R.length = l1.length + l2.length := by rw [hR]; simp
    rw [← hR] at hz
    have hR' : List.replicate (l1.length + l2.length) (AV.agg [.int .i64 0, .int .i64 0, .int .i64 0, .int .i64 0, .int .i64 0, .int .i64 0]) = R := hR.symm
    have a1 := appOwn (es := R) (len := 0) (l := l1) (by omega) hz (by omega) (by omega)
    rw [List.take_zero, List.nil_append, Nat.zero_add] at a1
    have hz2 : hdSz (l1.map encR ++ R.drop l1.length) 6 = true := by
      cases l1 with
      | cons x r => rfl
      | nil => simpa using hz
    have a2 := appOwn (es := l1.map encR ++ R.drop l1.length) (len := l1.length) (l := l2) (by simp [hRl]) hz2 (by omega) (by simp [hRl]; omega)
    have hfin : (l1.map encR ++ R.drop l1.length).take l1.length ++ l2.map encR ++ (l1.map encR ++ R.drop l1.length).drop (l1.length + l2.length) = (l1 ++ l2).map encR := by
      rw [List.take_append_of_le_length (by simp), List.take_of_length_le (by simp), List.drop_of_length_le (by simp [hRl]), List.append_nil, List.map_append]
    rw [hfin] at a2
    refine WL_inv (α := Nat) (fun q e mm => e 25 = .sl [encRs l1, encRs l2] .unk ∧ e 26 = I64 ((2 : Nat) : Int) ∧ e 27 = I64 q ∧ q ≤ 2 ∧ e 6 = .ref 0 0 (if q = 0 then 0 else if q = 1 then l1.length else l1.length + l2.length) ∧ mm = ⟨[.live (if q = 0 then R else if q = 1 then l1.map encR ++ R.drop l1.length else (l1 ++ l2).map encR) 6], []⟩) (fun q => 2 - q) 0 ?_ ?_
    · simp only [go_sem, Nat.reduceEqDiff, Nat.reduceAdd, Nat.reduceLT, Nat.reduceLeDiff, reduceIte, List.length_cons, List.length_nil, List.nil_append, hR']
      exact ⟨trivial, trivial, rfl, trivial, trivial, by rw [hR]⟩
    rintro q e m ⟨g25, g26, g27, hq, g6, rfl⟩
    rcases (by omega : q = 0 ∨ q = 1 ∨ q = 2) with rfl | rfl | rfl
    · have c1 : decide (((0 : Nat) : Int) < ((2 : Nat) : Int)) = true := rfl
      have w2 : IntKind.i64.wrap (((0 : Nat) : Int) + 1) = ((1 : Nat) : Int) := rfl
      simp only [go_sem, Nat.reduceEqDiff, Nat.reduceAdd, Nat.reduceLT, Nat.reduceLeDiff, reduceIte, g6, g25, g26, g27, c1, ix2_0, w2, a1]
      refine Nx_of 1 (by omega) ?_
      simp only [go_sem, Nat.reduceEqDiff, Nat.reduceAdd, Nat.reduceLT, Nat.reduceLeDiff, reduceIte, g6, g25, g26]
      try ((repeat' apply And.intro) <;> first | trivial | rfl | omega | assumption)
    · have c1 : decide (((1 : Nat) : Int) < ((2 : Nat) : Int)) = true := rfl
      have w2 : IntKind.i64.wrap (((1 : Nat) : Int) + 1) = ((2 : Nat) : Int) := rfl
      have g6 : e 6 = .ref 0 0 l1.length := g6
      simp only [go_sem, Nat.reduceEqDiff, Nat.reduceAdd, Nat.reduceLT, Nat.reduceLeDiff, reduceIte, g6, g25, g26, g27, c1, ix2_1, w2, if_neg (show ¬(1 : Nat) = 0 by omega), a2]
      refine Nx_of 2 (by omega) ?_
      simp only [go_sem, Nat.reduceEqDiff, Nat.reduceAdd, Nat.reduceLT, Nat.reduceLeDiff, reduceIte, g6, g25, g26]
      try ((repeat' apply And.intro) <;> first | trivial | rfl | omega | assumption)
    · have c1 : decide (((2 : Nat) : Int) < ((2 : Nat) : Int)) = false := rfl
      have g6 : e 6 = .ref 0 0 (l1.length + l2.length) := g6
      simp only [go_sem, Nat.reduceEqDiff, Nat.reduceAdd, Nat.reduceLT, Nat.reduceLeDiff, reduceIte, g6, g25, g26, g27, c1]
      refine .inr ⟨hne, ?_⟩
      rw [List.length_append]
      try ((repeat' apply And.intro) <;> first | trivial | rfl | omega | assumption)
end Go.Ab.T
end

section
namespace Go.Ab.T
set_option maxRecDepth 8000
set_option maxHeartbeats 4000000
open Go.Sort
theorem rPdq : Srt.PdqFns ft 6 (some 6) 100 115 116 138 117 140 139 101 123 124 118 141 142 148 119 120 121 122 :=
  ⟨rfl, rfl, rfl, rfl, rfl, rfl, rfl, rfl, rfl, rfl, rfl, rfl, rfl, rfl, rfl, rfl, rfl⟩
theorem rSort : ft 77 = some ⟨2, Srt.sortFuncC 101 100, Srt.sortFuncR, .r⟩ := rfl
/-- Reports as the sort's elements. -/
def rEls : Els where
  sz := 6
  lz := some 6
  D := fun x => ∃ c, x = encR c
  len := fun x ⟨k, h⟩ => by rw [h]; rfl
  sol := fun x ⟨k, h⟩ => by rw [h]; rfl
  rd := fun x ⟨k, h⟩ => by rw [h]; rfl
  wr := fun x y ⟨k, h⟩ ⟨k', h'⟩ => by rw [h, h']; rfl
theorem byId1_ok (c d : Rp) : RV ft 78 [encR c, encR d] (I64 (cmpI c.id d.id)) := by
  refine RV_of ft78 rfl ?_
  simp only [c78, r78]
  simp only [go_sem, Nat.reduceEqDiff, Nat.reduceAdd, Nat.reduceLT, Nat.reduceLeDiff, reduceIte, WB79, WVH_eq (Compare_ok c.id d.id), true_and]
def idOf (x : AV) : Int := match x with | .agg [.int _ n, _, _, _, _, _] => n | _ => 0
def byId : CmpOK ft rEls (.fn 78 [] []) where
  cf := fun x y => cmpI (idOf x) (idOf y)
  ok := fun x y ⟨k, hk⟩ ⟨j, hj⟩ s K => by
    subst hk; subst hj
    rw [WAH_fn]
    simp only [List.nil_append, List.append_nil]
    rw [WB78]
    simp only [List.map_cons, List.map_nil, dep_eq, snR]
    rw [WV_eq (byId1_ok k j)]
    simp only [List.all_cons, List.all_nil, hotR]
    exact propext ⟨fun h => h.2, fun h => ⟨rfl, h⟩⟩
theorem byId_lt (x y : AV) : byId.lt x y = decide (idOf x < idOf y) := cmpI_lt _ _
theorem byId_swo : SWO byId.lt := by
  have : byId.lt = fun x y => decide (idOf x < idOf y) := funext fun x => funext fun y => byId_lt x y
  rw [this]; exact swo_int
def unR (x : AV) : Rp := match x with | .agg [a, b, c, d, e, f] => ⟨unI a, unI b, unI c, unI d, unI e, unI f⟩ | _ => ⟨0, 0, 0, 0, 0, 0⟩
theorem unR_enc (k : Rp) : unR (encR k) = k := rfl
theorem sortR_run {id : Nat} {l : List Rp} {m : Mem} (hm : m.blks[id]? = some (.live (l.map encR) 6)) (hl : l.length < 1073741824) (K : AV → Mem → Prop)
    (hK : ∀ (l' : List Rp) (m' : Mem), l'.Perm l → l'.Pairwise (fun a b => a.id ≤ b.id) → m'.blks[id]? = some (.live (l'.map encR) 6) → (∀ i, i < m.blks.length → i ≠ id → m'.blks[i]? = m.blks[i]?) → m.blks.length ≤ m'.blks.length → m'.toks = m.toks → K (.tup []) m') :
    WR ft (.f 77) [.ref id 0 l.length, .fn 78 [] []] m K := by
  have hid : id < m.blks.length := (List.getElem?_eq_some_iff.1 hm).1
  have hgk : ∀ i (h : i < l.length), (l.map encR).toArray[i]! = encR l[i] := fun i h => by
    rw [getElem!_pos _ i (by simpa using h)]; simp
  have hD : AllD rEls (l.map encR).toArray := fun i hi => ⟨l[i]'(by simpa using hi), hgk i (by simpa using hi)⟩
  have h00 : MR m m id 6 (l.map encR).toArray := MR.refl (by simpa using hm)
  have hsz0 : (l.map encR).toArray.size = l.length := by simp
  refine Srt.sortFunc_run (E := rEls) byId rSort rPdq byId_swo hl hid (d := (l.map encR).toArray) (by simp) hD h00 K fun d' m' h1 h2 h3 => ?_
  have hsz : d'.size = l.length := by rw [h2.1]; simp
  have hperm : d'.toList.Perm (l.map encR) := by
    have := h2.2.2
    rw [show d'.extract 0 l.length = d' by rw [← hsz]; simp, show (l.map encR).toArray.extract 0 l.length = (l.map encR).toArray by simp [List.take_of_length_le]] at this
    simpa using this
  obtain ⟨l', hl', hp⟩ : ∃ l' : List Rp, d'.toList = l'.map encR ∧ l'.Perm l := by
    have key : ∀ (xs : List AV) (ys : List Rp), xs.Perm (ys.map encR) → ∃ zs : List Rp, xs = zs.map encR ∧ zs.Perm ys := by
      intro xs ys h
      have hmem : ∀ x ∈ xs, ∃ y, encR y = x := fun x hx => by
        obtain ⟨y, _, hy⟩ := List.mem_map.1 (h.mem_iff.1 hx); exact ⟨y, hy⟩
      have hex : ∃ zs : List Rp, xs = zs.map encR := by
        clear h
        induction xs with
        | nil => exact ⟨[], rfl⟩
        | cons x xs ih =>
          obtain ⟨y, hy⟩ := hmem x (by simp)
          obtain ⟨zs, hz⟩ := ih fun x hx => hmem x (by simp [hx])
          exact ⟨y :: zs, by simp [hy, hz]⟩
      obtain ⟨zs, rfl⟩ := hex
      refine ⟨zs, rfl, ?_⟩
      have := h.map unR
      rw [List.map_map, List.map_map, show unR ∘ encR = fun k => k from funext unR_enc] at this
      simpa using this
    exact key _ _ hperm
  have hsz' : l'.length = l.length := hp.length_eq
  refine hK l' m' hp ?_ (by have := h1.blk; rw [hl'] at this; exact this) h1.old h1.len h1.toks
  rw [List.pairwise_iff_getElem]
  intro i j hi hj hij
  have hs := h3 i j (by omega) hij (by omega)
  have gi : d'[i]! = encR l'[i] := by
    have := get_bang (d := d') (i := i) (by omega)
    rw [hl', List.getElem?_map, List.getElem?_eq_getElem hi] at this
    simp only [Option.map_some, Option.some.injEq] at this
    exact this.symm
  have gj : d'[j]! = encR l'[j] := by
    have := get_bang (d := d') (i := j) (by omega)
    rw [hl', List.getElem?_map, List.getElem?_eq_getElem hj] at this
    simp only [Option.map_some, Option.some.injEq] at this
    exact this.symm
  rw [byId_lt, gi, gj] at hs
  have hs := of_decide_eq_false hs
  simp only [idOf, encR] at hs
  omega
end Go.Ab.T
end
