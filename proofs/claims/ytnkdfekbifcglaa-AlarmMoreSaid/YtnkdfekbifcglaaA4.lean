/-
  A part of the proofs over this seat.
  (The texts Ab27 Ab27a Ab28 Ab28a Ab28b Ab28c Ab29 Ab30 Ab31 Ab32 Ab33, one behind the other.)
-/
import Derived.Test.YtnkdfekbifcglaaA3
import Derived.LoopNIn
import Derived.Laws.IdiomRangeMap
import Derived.Test.YtnkdfekbifcglaaA0
import Derived.RangeFuncLeaves
import Derived.ChangeArms
import Derived.DataReads
import Derived.ChangeSame
import Derived.WideKeyArgs
import Derived.RowKit
set_option linter.unusedSimpArgs false
set_option linter.unusedVariables false
set_option linter.unusedSectionVars false
section
/-
  A loop's record that turns; blocks for deferred calls that are shut.
-/
namespace Go.Ab
section
variable {C : Cx} {N N' : Nat → Nat → Prop} {z z0 z1 z2 : Z} {w : World}

/-- What a loop's record is to its abstract one. -/
def LpOK (C : Cx) (N : Nat → Nat → Prop) (z : Z) (L : Loop) (env : Nat → AV) (ps : List Nat) (asg body : ACode) (rdy : Bool) (pend : Option Ex) : Prop :=
  L.params.toList = ps ∧ C.TC L.assign L.tmps.size asg ∧ C.TC L.body L.tmps.size body ∧ (rdy = true → L.state = .ready) ∧ L.state ≠ .exhausted ∧
    (∀ t, R C.P N z (env t) (L.tmps.getD t undef)) ∧ (∀ t ∈ ps, t < L.tmps.size) ∧ (match pend with | none => L.pending = none | some e => L.state ≠ .busy ∧ ∃ c, L.pending = some c ∧ ExCode e c)
theorem LpOK.step {L : Loop} {env : Nat → AV} {ps : List Nat} {asg body : ACode} {rdy : Bool} {pend : Option Ex} (h : LpOK C N z L env ps asg body rdy pend) (hT : Tr C.P N z z1) : LpOK C N z1 L env ps asg body rdy pend := by
  obtain ⟨h1, h2, h3, h4, h5, h6, h7, h8⟩ := h
  exact ⟨h1, h2, h3, h4, h5, fun t => R_step hT (h6 t), h7, h8⟩
theorem lp_of (hG : Good C N z) {id : Nat} {env : Nat → AV} {ps : List Nat} {asg body : ACode} {rdy : Bool} {pend : Option Ex} (h : z.m.blks[id]? = some (.lp env ps asg body rdy pend)) :
    ∃ L : Loop, z.h[z.ρ id]? = some (.loop L) ∧ LpOK C N z L env ps asg body rdy pend := by
  obtain ⟨L, h1, h2, h3, h4, h5, h6, h7, h8, h9⟩ := hG.lp id env ps asg body rdy pend h
  exact ⟨L, h1, h2, h3, h4, h5, h6, h7, h8, h9⟩

def Z.putL (z : Z) (id : Nat) (L : Loop) (k : Blk) : Z := ⟨z.h.setIfInBounds (z.ρ id) (.loop L), z.ρ, z.τ, { z.m with blks := z.m.blks.set id k }⟩

theorem putL_other {id b : Nat} {L : Loop} {k : Blk} (h : b ≠ z.ρ id) : (z.putL id L k).h[b]? = z.h[b]? := by
  simp [Z.putL, Array.getElem?_setIfInBounds_ne (Ne.symm h)]
theorem putL_same {id : Nat} {L : Loop} {k : Blk} (h : z.ρ id < z.h.size) : (z.putL id L k).h[z.ρ id]? = some (.loop L) := by
  simp [Z.putL, Array.getElem?_setIfInBounds_self_of_lt h]
theorem set_get {α : Type} {l : List α} {i j : Nat} {x y : α} (h : (l.set i x)[j]? = some y) : (j = i ∧ y = x) ∨ (j ≠ i ∧ l[j]? = some y) := by
  rw [List.getElem?_set] at h
  split at h
  · split at h
    · cases h; exact .inl ⟨by omega, rfl⟩
    · cases h
  · exact .inr ⟨by omega, h⟩

section
variable {id : Nat} {env0 : Nat → AV} {ps0 : List Nat} {asg0 body0 : ACode} {rdy0 : Bool} {pend0 : Option Ex}
theorem putL_tr (hG : Good C N z) (hb : z.m.blks[id]? = some (.lp env0 ps0 asg0 body0 rdy0 pend0)) (L : Loop) {k : Blk} (hk : ∀ es sz, k ≠ .live es sz) : Tr C.P N z (z.putL id L k) := by
  obtain ⟨L0, hL0, _⟩ := lp_of hG hb
  have hlt : z.ρ id < z.h.size := hG.rho_lt hb (by simp)
  have hcell : ∀ b j, cellAt (z.putL id L k).h b j = cellAt z.h b j := by
    intro b j
    by_cases h : b = z.ρ id
    · subst h; unfold cellAt; rw [putL_same hlt, hL0]
    · unfold cellAt; rw [putL_other h]
  have hcs : ∀ b, csize (z.putL id L k).h b = csize z.h b := by
    intro b
    by_cases h : b = z.ρ id
    · subst h; unfold csize; rw [putL_same hlt, hL0]
    · unfold csize; rw [putL_other h]
  constructor
  · simp [Z.putL]
  · intro b o u h _; rw [hcell]; exact h
  · intro b o _ hx
    rcases hx with hx | ⟨i, es, sz, h1, h2⟩ | h
    · exact .inl hx
    · rcases set_get h1 with ⟨_, h3⟩ | ⟨_, h3⟩
      · exact absurd h3.symm (hk es sz)
      · exact .inr (.inl ⟨i, es, sz, h3, h2⟩)
    · exact .inr (.inr h)
  · intro b _ ho
    exact putL_other fun e => ho (.inl ⟨id, _, hb, by simp, e.symm⟩)
  · intro b _ ho
    rcases ho with ⟨i, k', h1, h2, h3⟩ | ho
    · rcases set_get h1 with ⟨rfl, _⟩ | ⟨_, h4⟩
      · exact .inl ⟨i, _, hb, by simp, h3⟩
      · exact .inl ⟨i, k', h4, h2, h3⟩
    · exact .inr ho
  · simp [Z.putL]
  · intro _ _; rfl
  · intro i _ es sz h
    rcases set_get h with ⟨_, h3⟩ | ⟨_, h3⟩
    · exact absurd h3.symm (hk es sz)
    · exact ⟨⟨es, h3⟩, hcs _⟩
  · exact Nat.le_refl _
  · intro t _ n T h; exact ⟨n, h, Nat.le_refl _, fun _ => ⟨rfl, hcs _⟩⟩
  · intro b l h
    by_cases he : b = z.ρ id
    · subst he; exact ⟨L, putL_same hlt⟩
    · exact ⟨l, by rw [putL_other he]; exact h⟩
theorem putL_good (hG : Good C N z) (hb : z.m.blks[id]? = some (.lp env0 ps0 asg0 body0 rdy0 pend0)) {L : Loop} {k : Blk} (hk : k = .dead ∨ ∃ env ps asg body rdy pend, k = .lp env ps asg body rdy pend ∧ LpOK C N z L env ps asg body rdy pend) : Good C N (z.putL id L k) := by
  have hkl : ∀ es sz, k ≠ .live es sz := by
    intro es sz e
    rcases hk with rfl | ⟨_, _, _, _, _, _, rfl, _⟩ <;> cases e
  have hT := putL_tr hG hb L hkl
  have hlt : z.ρ id < z.h.size := hG.rho_lt hb (by simp)
  have hne : ∀ {i : Nat} {k' : Blk}, z.m.blks[i]? = some k' → k' ≠ .dead → i ≠ id → z.ρ i ≠ z.ρ id := fun h1 h2 h3 e => h3 (hG.rr _ _ _ _ h1 hb h2 (by simp) e)
  have hw : ∀ {i : Nat} {k' : Blk}, (z.putL id L k).m.blks[i]? = some k' → k' ≠ .dead → ∃ k2, z.m.blks[i]? = some k2 ∧ k2 ≠ .dead := by
    intro i k' h1 h2
    rcases set_get h1 with ⟨rfl, _⟩ | ⟨_, h3⟩
    · exact ⟨_, hb, by simp⟩
    · exact ⟨_, h3, h2⟩
  constructor
  · intro i es sz h
    rcases set_get h with ⟨_, h3⟩ | ⟨hi, h3⟩
    · exact absurd h3.symm (hkl es sz)
    · obtain ⟨cs, T, h4, h5, h6⟩ := hG.live i es sz h3
      exact ⟨cs, T, (putL_other (hne h3 (by simp) hi)).trans h4, h5, fun i e he => ⟨(h6 i e he).1, fun j a ha => let ⟨u, h7, h8, h9⟩ := (h6 i e he).2 j a ha; ⟨u, h7, h8, R_step hT h9⟩⟩⟩
  · intro t n T h
    obtain ⟨cs, cap, h1, h2⟩ := hG.tok t n T h
    exact ⟨cs, cap, (putL_other fun e => hG.rt id _ t _ hb (by simp) h e.symm).trans h1, h2⟩
  · intro i i' k1 k2 h1 h2 d1 d2 e
    obtain ⟨k3, h3, d3⟩ := hw h1 d1
    obtain ⟨k4, h4, d4⟩ := hw h2 d2
    exact hG.rr i i' k3 k4 h3 h4 d3 d4 e
  · intro i k1 t x h1 d1 h2
    obtain ⟨k3, h3, d3⟩ := hw h1 d1
    exact hG.rt i k3 t x h3 d3 h2
  · exact hG.tt
  · intro i es sz h o
    rcases set_get h with ⟨_, h3⟩ | ⟨hi, h3⟩
    · exact absurd h3.symm (hkl es sz)
    · exact hG.nl i es sz h3 o
  · exact hG.nt
  · intro b o h; have := hG.no b o h; simpa [Z.putL] using this
  · intro i env ps asg body rdy pend h
    rcases set_get h with ⟨rfl, h3⟩ | ⟨hi, h3⟩
    · rcases hk with rfl | ⟨env', ps', asg', body', rdy', pend', rfl, h4⟩
      · cases h3
      · cases h3
        obtain ⟨g1, g2, g3, g4, g5, g6, g7, g8⟩ := h4
        exact ⟨L, putL_same hlt, g1, g2, g3, g4, g5, fun t => R_step hT (g6 t), g7, g8⟩
    · obtain ⟨L1, h4, g1, g2, g3, g4, g5, g6, g7, g8⟩ := hG.lp i env ps asg body rdy pend h3
      exact ⟨L1, (putL_other (hne h3 (by simp) hi)).trans h4, g1, g2, g3, g4, g5, fun t => R_step hT (g6 t), g7, g8⟩
  · intro g e h; exact R_step hT (hG.glob g e h)
  · intro i kvs ek h
    rcases set_get h with ⟨_, h3⟩ | ⟨hi, h3⟩
    · rcases hk with rfl | ⟨_, _, _, _, _, _, rfl, _⟩ <;> cases h3
    · obtain ⟨es, clock, h4, h5⟩ := hG.mp i kvs ek h3
      exact ⟨es, clock, (putL_other (hne h3 (by simp) hi)).trans h4, h5.step hT⟩
end

/-! ### The blocks for deferred calls -/
def markOf (r : Nat) : Deferred := { target := .collected r, args := #[] }
def MarksOK (lo : Nat) (h : Array Obj) (ds : List Deferred) : Prop := ∃ rs : List Nat, ds = rs.map markOf ∧ rs.Nodup ∧ ∀ r ∈ rs, lo ≤ r ∧ h[r]? = some (.deferred (some []))

theorem def_free (hG : Good C N z) {r : Nat} {d : Option (List Deferred)} (h : z.h[r]? = some (.deferred d)) : ¬Own z r := by
  rintro (⟨id, k, h1, h2, rfl⟩ | ⟨t, ⟨n, T⟩, h1, rfl⟩)
  · cases k with
    | live es sz => obtain ⟨cs, T, h3, _⟩ := hG.live id es sz h1; rw [h] at h3; cases h3
    | dead => exact h2 rfl
    | lp env ps asg body rdy pend => obtain ⟨L, h3, _⟩ := lp_of hG h1; rw [h] at h3; cases h3
    | mp kvs ek => obtain ⟨es, clock, h3, _⟩ := hG.mp id kvs ek h1; rw [h] at h3; cases h3
  · obtain ⟨cs, cap, h3, _⟩ := hG.tok t n T h1; rw [h] at h3; cases h3
theorem MarksOK.step {lo : Nat} {ds : List Deferred} (hG : Good C N z) (hT : Tr C.P N z z1) (h : MarksOK lo z.h ds) : MarksOK lo z1.h ds := by
  obtain ⟨rs, h1, h2, h3⟩ := h
  refine ⟨rs, h1, h2, fun r hr => ⟨(h3 r hr).1, ?_⟩⟩
  have h4 := (h3 r hr).2
  rw [hT.other r (Array.getElem?_eq_some_iff.1 h4).1 (def_free hG h4)]; exact h4
theorem MarksOK.nil (lo : Nat) (h : Array Obj) : MarksOK lo h [] := ⟨[], rfl, List.nodup_nil, fun r hr => by cases hr⟩

/-- An object that is none of the values' business. -/
def softO : Obj → Bool
  | .deferred _ | .mapIter .. => true
  | _ => false
/-- Heaps that agree but for what is none of the values' business. -/
structure SameC (h h' : Array Obj) : Prop where
  size : h'.size = h.size
  at_ : ∀ b : Nat, h'[b]? = h[b]? ∨ ((∃ o, h[b]? = some o ∧ softO o = true) ∧ ∃ o, h'[b]? = some o ∧ softO o = true)
theorem SameC.refl (h : Array Obj) : SameC h h := ⟨rfl, fun _ => .inl rfl⟩
theorem SameC.trans {a b c : Array Obj} (h : SameC a b) (k : SameC b c) : SameC a c := by
  refine ⟨k.size.trans h.size, fun i => ?_⟩
  rcases h.at_ i with h1 | ⟨h1, h2⟩ <;> rcases k.at_ i with k1 | ⟨k1, k2⟩
  · exact .inl (k1.trans h1)
  · exact .inr ⟨by rw [← h1]; exact k1, k2⟩
  · exact .inr ⟨h1, by rw [k1]; exact h2⟩
  · exact .inr ⟨h1, k2⟩
theorem SameC.get {h h' : Array Obj} (s : SameC h h') {b : Nat} {o : Obj} (e : h[b]? = some o) (hn : softO o = false) : h'[b]? = some o := by
  rcases s.at_ b with h1 | ⟨⟨d, h1, hd⟩, _⟩
  · rw [h1]; exact e
  · rw [e] at h1; cases h1; rw [hn] at hd; cases hd
theorem SameC.cell {h h' : Array Obj} (s : SameC h h') (b j : Nat) : cellAt h' b j = cellAt h b j := by
  unfold cellAt
  rcases s.at_ b with h1 | ⟨⟨d, h1, hd⟩, d', h2, hd'⟩
  · rw [h1]
  · rw [h1, h2]; cases d <;> cases hd <;> cases d' <;> cases hd' <;> rfl
theorem SameC.csz {h h' : Array Obj} (s : SameC h h') (b : Nat) : csize h' b = csize h b := by
  unfold csize
  rcases s.at_ b with h1 | ⟨⟨d, h1, hd⟩, d', h2, hd'⟩
  · rw [h1]
  · rw [h1, h2]; cases d <;> cases hd <;> cases d' <;> cases hd' <;> rfl
theorem same_Rep {h' : Array Obj} (s : SameC z.h h') : ∀ (n : Nat) {a : AV} {v : Value}, Rep C.P N z n a v → Rep C.P N { z with h := h' } n a v
  | 0, _, _, h => h.elim
  | n + 1, a, v, h => by
    have ih : ∀ a u, Rep C.P N z n a u → Rep C.P N { z with h := h' } n a u := fun _ _ h => same_Rep s n h
    have hat : ∀ {e : AV} {b o : Nat}, AtI C.P N z (Rep C.P N z n) e b o → AtI C.P N { z with h := h' } (Rep C.P N { z with h := h' } n) e b o := fun h j a ha =>
      let ⟨u, h1, h2, h3, h4⟩ := h j a ha
      ⟨u, (s.cell _ _).trans h1, h2, h3, ih _ _ h4⟩
    cases a with
    | agg cs => obtain ⟨us, hv, hr⟩ := h; exact ⟨us, hv, hr.mono ih⟩
    | tup cs => obtain ⟨us, hv, hr⟩ := h; exact ⟨us, hv, hr.mono ih⟩
    | sl es tk =>
      obtain ⟨a, cap, st, hv, h1, h1', h2, h3, h4, h5⟩ := h
      refine ⟨a, cap, st, hv, h1, h1', h2, h3, fun i e he => let ⟨b, o, h6, h7⟩ := h4 i e he; ⟨b, o, h6, hat h7⟩, ?_⟩
      cases tk with
      | unk => trivial
      | tight => exact h5
      | _ =>
        rename_i t
        refine ⟨h5.1, fun k T hk => ⟨(h5.2 k T hk).1, fun e => ⟨((h5.2 k T hk).2 e).1, ?_⟩⟩⟩
        show cap * st = csize h' (z.τ t)
        rw [s.csz]; exact ((h5.2 k T hk).2 e).2
    | pv e off => obtain ⟨b, o, hv, h1⟩ := h; exact ⟨b, o, hv, hat h1⟩
    | fn f first cap => obtain ⟨fs, cs, hv, h1, h2⟩ := h; exact ⟨fs, cs, hv, h1.mono ih, h2.mono ih⟩
    | ref id off len =>
      obtain ⟨h1, h2, h3⟩ := h
      refine ⟨h1, h2, fun es sz hb => ?_⟩
      show ∃ cap, v = _ ∧ _ ∧ _ ∧ (off + cap) * sz = csize h' (z.ρ id)
      rw [s.csz]; exact h3 es sz hb
    | ptr id ix off => exact h
    | yld id => exact h
    | _ => exact h
theorem same_R {h' : Array Obj} (s : SameC z.h h') {a : AV} {v : Value} (h : R C.P N z a v) : R C.P N { z with h := h' } a v := let ⟨n, h⟩ := h; ⟨n, same_Rep s n h⟩
theorem same_good {h' : Array Obj} (s : SameC z.h h') (hG : Good C N z) : Good C N { z with h := h' } := by
  constructor
  · intro id es sz h
    obtain ⟨cs, T, h2, h3, h4⟩ := hG.live id es sz h
    exact ⟨cs, T, s.get h2 rfl, h3, fun i e he => ⟨(h4 i e he).1, fun j a ha => let ⟨u, h5, h6, h7⟩ := (h4 i e he).2 j a ha; ⟨u, h5, h6, same_R s h7⟩⟩⟩
  · intro t n T h
    obtain ⟨cs, cap, h1, h2⟩ := hG.tok t n T h
    exact ⟨cs, cap, s.get h1 rfl, h2⟩
  · exact hG.rr
  · exact hG.rt
  · exact hG.tt
  · exact hG.nl
  · exact hG.nt
  · intro b o h; have := hG.no b o h; rw [s.size]; exact this
  · intro id env ps asg body rdy pend h
    obtain ⟨L, h2, h3, h4, h5, h6, h6', h7, h8, h9⟩ := hG.lp id env ps asg body rdy pend h
    exact ⟨L, s.get h2 rfl, h3, h4, h5, h6, h6', fun t => same_R s (h7 t), h8, h9⟩
  · intro g e h; exact same_R s (hG.glob g e h)
  · intro id kvs ek h
    obtain ⟨es, clock, h2, h3⟩ := hG.mp id kvs ek h
    exact ⟨es, clock, s.get h2 rfl, h3.map fun k => same_R s k⟩
/-- A transition whose end is read with blocks shut that are new to its beginning. -/
theorem same_tr {h' : Array Obj} (s : SameC z.h h') (hT : Tr C.P N z0 z) (hn : ∀ b : Nat, b < z0.h.size → h'[b]? = z.h[b]?) : Tr C.P N z0 { z with h := h' } where
  size := by rw [s.size]; exact hT.size
  cell := fun b o u h1 h2 => (s.cell b o).trans (hT.cell b o u h1 h2)
  forb := hT.forb
  other := fun b hb ho => (hn b hb).trans (hT.other b hb ho)
  own := hT.own
  blks := hT.blks
  rho := hT.rho
  live := fun id hid es sz h => let ⟨h1, h2⟩ := hT.live id hid es sz h; ⟨h1, (s.csz _).trans h2⟩
  toks := hT.toks
  tok := fun t ht n T h => let ⟨n0, h1, h2, h3⟩ := hT.tok t ht n T h; ⟨n0, h1, h2, fun e => ⟨(h3 e).1, (s.csz _).trans (h3 e).2⟩⟩
  loops := fun b l h => let ⟨l', h1⟩ := hT.loops b l h; ⟨l', s.get h1 rfl⟩
end
end Go.Ab
end

section
/-
  Blocks that are away: what is left holds still.
-/
namespace Go.Ab
/-! ### Blocks that are away -/
section
variable {C : Cx} {N : Nat → Nat → Prop} {z z0 z1 z2 z3 : Z}

def Z.wm (z : Z) (m : Mem) : Z := ⟨z.h, z.ρ, z.τ, m⟩
/-- Nothing is live there that isn't live here. -/
structure Liv (m m' : Mem) : Prop where
  toks : m'.toks = m.toks
  len : m'.blks.length = m.blks.length
  live : ∀ (i : Nat) es sz, m'.blks[i]? = some (.live es sz) → m.blks[i]? = some (.live es sz)
theorem liv_X {P : Program} {m' : Mem} (h : Liv z.m m') {b o : Nat} (hx : X P N (z.wm m') b o) : X P N z b o := by
  rcases hx with hx | ⟨id, es, sz, h1, h2⟩ | ⟨t, n, T, h1, h2⟩
  · exact .inl hx
  · exact .inr (.inl ⟨id, es, sz, h.live _ _ _ h1, h2⟩)
  · exact .inr (.inr ⟨t, n, T, by rw [← h.toks]; exact h1, h2⟩)
theorem liv_Rep {P : Program} {m' : Mem} (hl : Liv z.m m') : ∀ (n : Nat) {a : AV} {v : Value}, Rep P N z n a v → Rep P N (z.wm m') n a v
  | 0, _, _, h => h.elim
  | n + 1, a, v, h => by
    have ih : ∀ a u, Rep P N z n a u → Rep P N (z.wm m') n a u := fun _ _ h => liv_Rep hl n h
    have hat : ∀ {e : AV} {b o : Nat}, AtI P N z (Rep P N z n) e b o → AtI P N (z.wm m') (Rep P N (z.wm m') n) e b o := fun h j a ha =>
      let ⟨u, h1, h2, h3, h4⟩ := h j a ha
      ⟨u, h1, fun hx => h2 (liv_X hl hx), h3, ih _ _ h4⟩
    cases a with
    | agg cs => obtain ⟨us, hv, hr⟩ := h; exact ⟨us, hv, hr.mono ih⟩
    | tup cs => obtain ⟨us, hv, hr⟩ := h; exact ⟨us, hv, hr.mono ih⟩
    | sl es tk =>
      obtain ⟨a, cap, st, hv, h1, h1', h2, h3, h4, h5⟩ := h
      refine ⟨a, cap, st, hv, h1, h1', h2, h3, fun i e he => let ⟨b, o, h6, h7⟩ := h4 i e he; ⟨b, o, h6, hat h7⟩, ?_⟩
      cases tk with
      | unk => trivial
      | tight => exact h5
      | _ =>
        rename_i t
        refine ⟨?_, fun k T hk => h5.2 k T (by rw [← hl.toks]; exact hk)⟩
        show t < m'.toks.length
        rw [hl.toks]; exact h5.1
    | pv e off => obtain ⟨b, o, hv, h1⟩ := h; exact ⟨b, o, hv, hat h1⟩
    | fn f first cap => obtain ⟨fs, cs, hv, h1, h2⟩ := h; exact ⟨fs, cs, hv, h1.mono ih, h2.mono ih⟩
    | ref id off len =>
      obtain ⟨h1, h2, h3⟩ := h
      exact ⟨by show id < m'.blks.length; rw [hl.len]; exact h1, h2, fun es sz hb => h3 es sz (hl.live _ _ _ hb)⟩
    | ptr id ix off | aps id ix off q =>
      obtain ⟨h1, h2, h3⟩ := h
      exact ⟨by show id < m'.blks.length; rw [hl.len]; exact h1, h2, fun es sz hb => h3 es sz (hl.live _ _ _ hb)⟩
    | yld id => exact ⟨by show id < m'.blks.length; rw [hl.len]; exact h.1, h.2⟩
    | mp id => exact ⟨by show id < m'.blks.length; rw [hl.len]; exact h.1, h.2⟩
    | itr id => exact ⟨by show id < m'.blks.length; rw [hl.len]; exact h.1, h.2⟩
    | _ => exact h
theorem liv_R {P : Program} {m' : Mem} (hl : Liv z.m m') {a : AV} {v : Value} (h : R P N z a v) : R P N (z.wm m') a v := let ⟨n, h⟩ := h; ⟨n, liv_Rep hl n h⟩
/-- A block is dead there, or it is what it is here. -/
structure Less (m m' : Mem) : Prop where
  toks : m'.toks = m.toks
  len : m'.blks.length = m.blks.length
  at_ : ∀ (i : Nat) k, m'.blks[i]? = some k → k = .dead ∨ m.blks[i]? = some k
theorem Less.liv {m m' : Mem} (h : Less m m') : Liv m m' := ⟨h.toks, h.len, fun i es sz hb => (h.at_ i _ hb).elim (fun e => by cases e) id⟩
theorem Less.get {m m' : Mem} (h : Less m m') {i : Nat} {k : Blk} (hk : m'.blks[i]? = some k) (hd : k ≠ .dead) : m.blks[i]? = some k := (h.at_ i _ hk).elim (fun e => absurd e hd) id
theorem less_tr {m' : Mem} (h : Less z.m m') : Tr C.P N z (z.wm m') where
  size := Nat.le_refl _
  cell := fun _ _ _ h _ => h
  forb := fun _ _ _ hx => liv_X h.liv hx
  other := fun _ _ _ => rfl
  own := fun b _ ho => by
    rcases ho with ⟨id, k, h1, h2, h3⟩ | ⟨t, x, h1, h2⟩
    · exact .inl ⟨id, k, h.get h1 h2, h2, h3⟩
    · exact .inr ⟨t, x, by rw [← h.toks]; exact h1, h2⟩
  blks := by show _ ≤ m'.blks.length; rw [h.len]; exact Nat.le_refl _
  rho := fun _ _ => rfl
  live := fun id _ es sz hb => ⟨⟨es, h.liv.live _ _ _ hb⟩, rfl⟩
  toks := by show _ ≤ m'.toks.length; rw [h.toks]; exact Nat.le_refl _
  tok := fun t _ n T ht => ⟨n, by rw [← h.toks]; exact ht, Nat.le_refl _, fun _ => ⟨rfl, rfl⟩⟩
  loops := fun b l hb => ⟨l, hb⟩
theorem less_good {m' : Mem} (h : Less z.m m') (hG : Good C N z) : Good C N (z.wm m') := by
  have hR : ∀ {a : AV} {v : Value}, R C.P N z a v → R C.P N (z.wm m') a v := fun k => liv_R h.liv k
  constructor
  · intro id es sz hb
    obtain ⟨cs, T, h2, h3, h4⟩ := hG.live id es sz (h.liv.live _ _ _ hb)
    exact ⟨cs, T, h2, h3, fun i e he => ⟨(h4 i e he).1, fun j a ha => let ⟨u, h5, h6, h7⟩ := (h4 i e he).2 j a ha; ⟨u, h5, h6, hR h7⟩⟩⟩
  · intro t n T ht
    exact hG.tok t n T (by rw [← h.toks]; exact ht)
  · intro i i' k k' h1 h2 d1 d2 e
    exact hG.rr i i' k k' (h.get h1 d1) (h.get h2 d2) d1 d2 e
  · intro i k t x h1 d1 h2
    exact hG.rt i k t x (h.get h1 d1) d1 (by rw [← h.toks]; exact h2)
  · intro t t' x x' h1 h2 e
    exact hG.tt t t' x x' (by rw [← h.toks]; exact h1) (by rw [← h.toks]; exact h2) e
  · intro i es sz hb
    exact hG.nl i es sz (h.liv.live _ _ _ hb)
  · intro t n T ht
    exact hG.nt t n T (by rw [← h.toks]; exact ht)
  · exact hG.no
  · intro id env ps asg body rdy pend hb
    obtain ⟨L, h2, h3, h4, h5, h6, h6', h7, h8, h9⟩ := hG.lp id env ps asg body rdy pend (h.get hb (by simp))
    exact ⟨L, h2, h3, h4, h5, h6, h6', fun t => hR (h7 t), h8, h9⟩
  · intro g e k; exact hR (hG.glob g e k)
  · intro id kvs ek hb
    obtain ⟨es, clock, h2, h3⟩ := hG.mp id kvs ek (h.get hb (by simp))
    exact ⟨es, clock, h2, h3.map hR⟩

def Mem.kill (m : Mem) (id : Nat) : Mem := ⟨m.blks.set id .dead, m.toks⟩
theorem kill_less (m : Mem) (id : Nat) : Less m (m.kill id) := ⟨rfl, by simp [Mem.kill], fun i k h => by
  rcases set_get h with ⟨_, h1⟩ | ⟨_, h1⟩
  · exact .inl h1
  · exact .inr h1⟩
theorem kill_free (hG : Good C N z) {id : Nat} {k : Blk} (hb : z.m.blks[id]? = some k) (hk : k ≠ .dead) : ¬Own (z.wm (z.m.kill id)) (z.ρ id) := by
  rintro (⟨i, k', h1, h2, h3⟩ | ⟨t, x, h1, h2⟩)
  · rcases set_get h1 with ⟨_, h4⟩ | ⟨h4, h5⟩
    · exact h2 h4
    · exact h4 (hG.rr _ _ _ _ h5 hb h2 hk h3)
  · exact hG.rt id k t x hb hk h1 h2.symm
end
end Go.Ab
end

section
/-
  Code: what the abstract machine does, the code does.
-/
namespace Go.Ab
section
variable {C : Cx} {N : Nat → Nat → Prop} {z z0 z1 z2 : Z} {w : World}

structure CInv (C : Cx) (N : Nat → Nat → Prop) (lo nt : Nat) (z : Z) (w : World) (s : St) (a : Act) : Prop where
  good : Good C N z
  heap : z.h = w.heap
  mem : z.m = s.mem
  env : EnvOK C N z s.env a
  size : a.tmps.size = nt
  los : lo ≤ z.h.size
  marks : MarksOK lo z.h a.defers
def Post (C : Cx) (N : Nat → Nat → Prop) (lo nt : Nat) (z : Z) (w : World) (s' : St) (a' : Act) (w' : World) : Prop := ∃ z', Tr C.P N z z' ∧ WS w w' ∧ CInv C N lo nt z' w' s' a'
def ExM : Ex → Exit → Prop
  | .nxt, ex => ex = .normal
  | .out id, ex => ex = .exit id
  | .ret, ex => ex = .ret
def RunD (C : Cx) (R' : Run) : Prop := ∀ f args m p, R' (.f f) args m = some p → ∃ fn, C.ft f = some fn

theorem Post.self {lo nt : Nat} {s : St} {a : Act} (h : CInv C N lo nt z w s a) : Post C N lo nt z w s a w := ⟨z, Tr.refl z, WS.refl w, h⟩
theorem Post.trans {lo nt : Nat} {w1 w2 : World} {s2 : St} {a2 : Act} (hT : Tr C.P N z z1) (hw : WS w w1) (h : Post C N lo nt z1 w1 s2 a2 w2) : Post C N lo nt z w s2 a2 w2 :=
  let ⟨z2, h1, h2, h3⟩ := h; ⟨z2, hT.trans h1, hw.trans h2, h3⟩

theorem RL_app {S : AV → Value → Prop} {as bs : List AV} {us vs : List Value} (h7 : RL S as us) (h8 : RL S bs vs) : RL S (as ++ bs) (us ++ vs) := by
  refine ⟨by simp [h7.1, h8.1], fun i b u hb hu => ?_⟩
  by_cases hi : i < as.length
  · rw [List.getElem?_append_left hi] at hb
    rw [List.getElem?_append_left (by rw [← h7.1]; exact hi)] at hu
    exact h7.2 i b u hb hu
  · rw [List.getElem?_append_right (by omega)] at hb
    rw [List.getElem?_append_right (by rw [← h7.1]; omega), ← h7.1] at hu
    exact h8.2 _ b u hb hu

/-- A loop's record is laid. -/
theorem enter_sound {lo nt : Nat} {s : St} {a : Act} (hI : CInv C N lo nt z w s a) {ro : Option Nat} (hro : ∀ l, ro = some l → ∃ L, z.h[l]? = some (Obj.loop L)) (fn : FuncId) (ps : Array Tmp) (assign body : Code) :
    ∃ (l : Nat) (mark : List Deferred) (w1 : World) (zd : Z) (df : Nat), (Instr.enterLoop fn a.tmps ps assign body ro).run C.P w = .ok (l, mark) w1 ∧ Good C N zd ∧ Tr C.P N z zd ∧ zd.m = z.m ∧ zd.h.size = l ∧
      w1.heap = zd.h.push (.loop { state := .ready, pending := none, fn, tmps := a.tmps, params := ps, assign, body, defers := df }) ∧ WS w w1 ∧ MarksOK lo zd.h (mark ++ a.defers) ∧ zd.ρ = z.ρ := by
  cases ro with
  | none =>
    have hm : z.h.size = w.heap.size := by rw [hI.heap]
    refine ⟨_, _, _, { z with h := z.h.push (.deferred (some [])) }, w.heap.size, run_enterLoop_outer fn a.tmps ps assign body, good_push _ hI.good, tr_push z _ hI.good, rfl, by simp [hm], ?_, ⟨rfl, rfl, rfl⟩, ?_, rfl⟩
    · show (w.heap.push _).push _ = _
      rw [hI.heap]
    · obtain ⟨rs, h1, h2, h3⟩ := hI.marks
      refine ⟨z.h.size :: rs, by rw [h1, hm]; rfl, List.nodup_cons.2 ⟨fun hr => ?_, h2⟩, fun r hr => ?_⟩
      · have := (Array.getElem?_eq_some_iff.1 (h3 _ hr).2).1; omega
      · rcases List.mem_cons.1 hr with rfl | hr
        · exact ⟨hI.los, by simp⟩
        · have h4 := h3 r hr
          refine ⟨h4.1, ?_⟩
          show (z.h.push _)[r]? = _
          rw [get_push_lt (Array.getElem?_eq_some_iff.1 h4.2).1]; exact h4.2
  | some l =>
    obtain ⟨L, hL⟩ := hro l rfl
    rw [hI.heap] at hL
    refine ⟨w.heap.size, [], w.alloc (.loop { state := .ready, pending := none, fn, tmps := a.tmps, params := ps, assign, body, defers := L.defers }), z, L.defers, ?_, hI.good, Tr.refl z, rfl, by rw [hI.heap], ?_, ⟨rfl, rfl, rfl⟩, hI.marks, rfl⟩
    · unfold Instr.enterLoop
      simp only [Sem.run_bind, run_getLoop hL, run_newObj_alloc, Result.andThen, Sem.run_pure]
    · show w.heap.push _ = _
      rw [hI.heap]

theorem range_sound (hC : C.OK) {R' : Run} (hR : RunF C R') (hD : RunD C R') {g : Operand} {ps : Array Tmp} {assign body : Code} {ow : Ow} {lo nt n : Nat} {ac : ACode} (htr : tr C.P C.G ow C.md nt (.rangeFunc g ps assign body) = some ac)
    {s s' : St} {e : Ex} (h : exec C.ft R' n ac s = some (e, s')) {a : Act} (hI : CInv C N lo nt z w s a) {F : Fence} {k : Nat} (hF : WideF F) (hro : ∀ l, F.round = some l → ∃ L, z.h[l]? = some (Obj.loop L)) {Q : Exit → Act → World → Prop}
    (hQ : ∀ ex a' w', ExM e ex → Post C N lo nt z w s' a' w' → Q ex a' w') : (Code.rangeFunc g ps assign body).wpIn F k C.P Q a w := by
  simp only [tr] at htr
  split at htr
  · cases htr
  · rename_i hps
    simp only [bind, Option.bind_eq_some_iff, pure, Option.some.injEq] at htr
    obtain ⟨sg, h1, aa, h2, ab, h3, rfl⟩ := htr
    simp only [exec] at h
    have hgv := trX_sound hI.good hI.env h1
    split at h
    · rename_i gf first cap hge
      rw [hge] at hgv
      obtain ⟨fs, cs, hfv, hfs, hcs⟩ := R_fn.1 hgv
      split at h
      · rename_i v m hrun
        split at h
        · rename_i env' ps' asg' body' rdy pend hmb
          split at h
          · rename_i hbz
            simp only [Option.some.injEq, Prod.mk.injEq] at h
            obtain ⟨rfl, rfl⟩ := h
            refine wpIn_rangeFunc fun fn _ => ?_
            obtain ⟨l, mark, w1, zd, df, e1, e2, e3, e4, e5, e6, e7, e8, e9⟩ := enter_sound hI hro fn ps assign body
            have hB : zd.m.blks.length = s.mem.blks.length := by rw [e4, hI.mem]
            let L0 : Loop := { state := .ready, pending := none, fn, tmps := a.tmps, params := ps, assign, body, defers := df }
            let z1 : Z := zd.grow (.loop L0) (.lp s.env ps.toList aa ab true none)
            have hT1 : Tr C.P N zd z1 := grow_tr e2 _ _
            have hpsl : ∀ t ∈ ps.toList, t < nt := by
              intro t ht
              refine Nat.lt_of_not_le fun hle => hps ?_
              rw [Array.any_eq_true']
              exact ⟨t, by simpa using ht, by simpa using hle⟩
            have hG1 : Good C N z1 := grow_good e2 (fun _ _ hk => by cases hk) fun env ps2 asg2 body2 rdy2 pend2 hk => by
              cases hk
              exact ⟨L0, rfl, rfl, ⟨ow, by rw [show L0.tmps.size = nt from hI.size]; exact h2⟩, ⟨ow, by rw [show L0.tmps.size = nt from hI.size]; exact h3⟩, fun _ => rfl, by simp [L0], fun t => R_step e3 (hI.env t), fun t ht => by rw [show L0.tmps.size = nt from hI.size]; exact hpsl t ht, rfl⟩
            have hz1h : z1.h = w1.heap := by rw [e6]; rfl
            have hz1m : z1.m = { s.mem with blks := s.mem.blks ++ [.lp s.env ps.toList aa ab true none] } := by
              show ({ zd.m with blks := _ } : Mem) = _
              rw [e4, hI.mem]
            have hr1 : z1.ρ s.mem.blks.length = l := by
              show (if _ = zd.m.blks.length then zd.h.size else _) = l
              rw [if_pos hB.symm, e5]
            have hTz : Tr C.P N z z1 := e3.trans hT1
            obtain ⟨fnf, hfn⟩ := hD _ _ _ _ hrun
            have hargs : RL (R C.P N z1) (first ++ [.yld s.mem.blks.length] ++ cap) (fs ++ #[Value.func (Fn.yield l) #[] #[]] ++ cs).toList := by
              rw [Array.toList_append, Array.toList_append]
              refine RL_app (RL_app (hfs.mono fun _ _ h => R_step hTz h) ⟨rfl, fun i b u hb hu => ?_⟩) (hcs.mono fun _ _ h => R_step hTz h)
              cases i with
              | zero =>
                simp at hb hu; subst hb; subst hu
                exact R_yld.2 ⟨by rw [hz1m]; simp, by rw [hr1]⟩
              | succ i => simp at hb
            refine ⟨l, mark, w1, ⟨.fn (.func gf) cs, fs ++ #[Value.func (Fn.yield l) #[] #[]]⟩, w1, gf, fs ++ #[Value.func (Fn.yield l) #[] #[]] ++ cs, w1, e1, ?_, fun f' _ => hF.fn f', enters hC hfn _ _, (fun hd => by rw [hF.depth] at hd; cases hd), ?_⟩
            · have harg : Array.map a.eval #[Operand.const (Value.func (Fn.yield l) #[] #[])] = #[Value.func (Fn.yield l) #[] #[]] := by simp [Act.eval]
              simp only [resolve, rangeCall, hfv, Deferred.ofValue, harg]
              rfl
            · refine CallsIn.mono (hR _ _ _ _ _ hrun N z1 w1 _ hG1 hz1h hz1m hargs F (k - 1) hF) fun en w2 hen => ?_
              cases en with
              | panicked _ => exact hen.elim
              | outgrown => exact hen.elim
              | returned v' =>
                obtain ⟨z2, g1, g2, g3, g4, g5, g6⟩ := hen
                have hmb2 : z2.m.blks[s.mem.blks.length]? = some (.lp env' ps' asg' body' rdy pend) := by rw [g5]; exact hmb
                obtain ⟨L', hL', hLp⟩ := lp_of g2 hmb2
                have hr2 : z2.ρ s.mem.blks.length = l := by rw [g3.rho _ (by rw [hz1m]; simp), hr1]
                rw [hr2] at hL'
                obtain ⟨p1, p2, p3, p4, p5, p6, p7, p8⟩ := hLp
                have hst : L'.state ≠ .busy := by
                  cases pend with
                  | none => rw [p4 (by simpa using hbz)]; simp
                  | some e => exact p8.1
                have hend := run_endLoop (P := C.P) (w := w2) (l := l) (r := L') (by rw [← g4]; exact hL') hst
                let z3 : Z := z2.putL s.mem.blks.length { L' with state := .exhausted } .dead
                have hG3 : Good C N z3 := putL_good g2 hmb2 (.inl rfl)
                have hT3 : Tr C.P N z2 z3 := putL_tr g2 hmb2 _ (by simp)
                have hz3h : z3.h = (w2.putObj l (.loop { L' with state := .exhausted })).heap := by
                  show z2.h.setIfInBounds (z2.ρ _) _ = w2.heap.setIfInBounds l _
                  rw [hr2, g4]
                have hTz3 : Tr C.P N z z3 := hTz.trans (g3.trans hT3)
                have hpost : Post C N lo nt z w (s.setMem { m with blks := m.blks.set s.mem.blks.length .dead }) { a with defers := mark ++ a.defers } (w2.putObj l (.loop { L' with state := .exhausted })) := by
                  refine ⟨z3, hTz3, (e7.trans g6).trans ⟨rfl, rfl, rfl⟩, hG3, hz3h, ?_, fun t => R_step hTz3 (hI.env t), hI.size, Nat.le_trans hI.los hTz3.size, ((e8.step e2 hT1).step hG1 g3).step g2 hT3⟩
                  show ({ z2.m with blks := z2.m.blks.set _ _ } : Mem) = _
                  rw [g5]; rfl
                refine ⟨L'.pending, _, hend, ?_⟩
                generalize w2.putObj l (.loop { L' with state := .exhausted }) = W4 at hpost ⊢
                cases pend with
                | none =>
                  rw [show L'.pending = none from p8]
                  exact hQ _ _ _ rfl hpost
                | some ee =>
                  obtain ⟨_, c, hc, hex⟩ := p8
                  rw [hc]
                  cases ee with
                  | nxt => exact hex.elim
                  | out id =>
                    rw [show c = .exit id from hex]
                    exact wpIn_exit (hQ _ _ _ rfl hpost)
                  | ret =>
                    rw [show c = .ret from hex]
                    exact wpIn_ret (hQ _ _ _ rfl hpost)
          · cases h
        · cases h
      · cases h
    · cases h

def Z.frz (z : Z) : Z := { z with m := ⟨z.m.blks.map fun _ => .dead, z.m.toks⟩ }
theorem frz_blk {z : Z} {id : Nat} {k : Blk} (h : z.frz.m.blks[id]? = some k) : k = .dead := by
  simp only [Z.frz, List.getElem?_map, Option.map_eq_some_iff] at h
  obtain ⟨_, _, rfl⟩ := h; rfl
theorem frz_X {P : Program} {b o : Nat} (h : X P N z.frz b o) : X P N z b o := by
  rcases h with h | ⟨id, es, sz, h1, _⟩ | h
  · exact .inl h
  · cases frz_blk h1
  · exact .inr (.inr h)
theorem frz_tr (z : Z) : Tr C.P N z z.frz where
  size := Nat.le_refl _
  cell := fun _ _ _ h _ => h
  forb := fun _ _ _ h => frz_X h
  other := fun _ _ _ => rfl
  own := fun b _ h => by
    rcases h with ⟨id, k, h1, h2, _⟩ | h
    · exact absurd (frz_blk h1) h2
    · exact .inr h
  blks := by simp [Z.frz]
  rho := fun _ _ => rfl
  live := fun id _ es sz h => by cases frz_blk h
  toks := Nat.le_refl _
  tok := fun t _ n T h => ⟨n, h, Nat.le_refl _, fun _ => ⟨rfl, rfl⟩⟩
  loops := fun b l h => ⟨l, h⟩
theorem frz_good (hG : Good C N z) : Good C N z.frz where
  live := fun id es sz h => by cases frz_blk h
  tok := hG.tok
  rr := fun id _ k _ h _ d _ _ => absurd (frz_blk h) d
  rt := fun id k _ _ h d _ => absurd (frz_blk h) d
  tt := hG.tt
  nl := fun id es sz h => by cases frz_blk h
  nt := hG.nt
  no := hG.no
  lp := fun id _ _ _ _ _ _ h => by cases frz_blk h
  glob := fun g e h => R_step (frz_tr z) (hG.glob g e h)
  mp := fun id kvs ek h => by cases frz_blk h
theorem frz_R (hG : Good C N z) {a : AV} {v : Value} (h : R C.P N z a v) : R C.P N z.frz (snap z.m dep a) v := by
  refine snap_R' (z0 := z.frz) hG rfl (fun _ _ h => h) (fun _ _ => frz_X) dep h (.inl fun id es sz hb o hx => ?_)
  rcases hx with hx | ⟨id', es', sz', h1, _⟩ | ⟨t, n, T, h1, h2, _⟩
  · exact hG.nl id es sz hb o hx
  · cases frz_blk h1
  · exact hG.rt id _ t _ hb (by simp) h1 h2.symm
theorem frz_sound {lo nt : Nat} {s : St} {a : Act} (hI : CInv C N lo nt z w s a) : Tr C.P N z z.frz ∧ CInv C N lo nt z.frz w s.frz a := by
  refine ⟨frz_tr z, frz_good hI.good, hI.heap, ?_, fun t => ?_, hI.size, hI.los, hI.marks⟩
  · show (⟨_, _⟩ : Mem) = ⟨_, _⟩
    rw [hI.mem]
  · have := frz_R hI.good (hI.env t)
    rw [hI.mem] at this
    exact this
theorem frzs_sound {lo nt : Nat} {s : St} {a : Act} (hI : CInv C N lo nt z w s a) {t : Nat} {p : AV × Mem} (h : frzsAt s.mem (s.env t) = some p) : ∃ z', Tr C.P N z z' ∧ z'.h = z.h ∧ CInv C N lo nt z' w ⟨upd s.env t p.1, p.2⟩ a := by
  have ht := hI.env t
  unfold frzsAt at h
  split at h
  · rename_i id ix off he
    rw [← hI.mem] at h
    split at h
    · rename_i es sz hb
      split at h
      · rename_i e hx
        cases h
        have hT := less_tr (C := C) (N := N) (kill_less z.m id)
        have hG := less_good (kill_less z.m id) hI.good
        refine ⟨z.wm (z.m.kill id), hT, rfl, hG, hI.heap, rfl, fun t' => ?_, hI.size, hI.los, hI.marks.step hI.good hT⟩
        show R C.P N _ (if t' = t then _ else s.env t') _
        split
        · rename_i h'
          subst h'
          rw [he] at ht
          obtain ⟨_, _, h3⟩ := R_ptr.1 ht
          refine R_pv.2 ⟨z.ρ id, ix * sz, h3 es sz hb, fun j av hj => ?_⟩
          obtain ⟨cs, T, g1, _, g3⟩ := hI.good.live id es sz hb
          obtain ⟨u, g4, g5, g6⟩ := (g3 ix e hx).2 j av hj
          refine ⟨u, ?_, ?_, g5, R_step hT g6⟩
          · show cellAt z.h (z.ρ id) (ix * sz + j) = some u
            unfold cellAt; rw [g1]; exact g4
          · have hfree := kill_free hI.good hb (by simp)
            rintro (hn | ⟨id', es', sz', h5, h6⟩ | ⟨t2, n, T2, h5, h6, _⟩)
            · exact hI.good.nl id es sz hb _ hn
            · exact hfree (.inl ⟨id', _, h5, by simp, h6⟩)
            · exact hfree (.inr ⟨t2, _, h5, h6⟩)
        · exact R_step hT (hI.env t')
      · cases h
    · cases h
  · rename_i es tk he
    cases h
    refine ⟨z, Tr.refl z, rfl, hI.good, hI.heap, hI.mem, fun t' => ?_, hI.size, hI.los, hI.marks⟩
    show R C.P N _ (if t' = t then _ else s.env t') _
    split
    · rename_i h'
      subst h'
      rw [← he]; exact ht
    · exact hI.env t'
  · rename_i e off he
    cases h
    refine ⟨z, Tr.refl z, rfl, hI.good, hI.heap, hI.mem, fun t' => ?_, hI.size, hI.los, hI.marks⟩
    show R C.P N _ (if t' = t then _ else s.env t') _
    split
    · rename_i h'
      subst h'
      rw [← he]; exact ht
    · exact hI.env t'
  · rename_i id off len he
    rw [← hI.mem] at h
    split at h
    · rename_i es sz hb
      split at h
      · rename_i hle
        cases h
        have hT := less_tr (C := C) (N := N) (kill_less z.m id)
        have hG := less_good (kill_less z.m id) hI.good
        refine ⟨z.wm (z.m.kill id), hT, rfl, hG, hI.heap, rfl, fun t' => ?_, hI.size, hI.los, hI.marks.step hI.good hT⟩
        show R C.P N _ (if t' = t then _ else s.env t') _
        split
        · rename_i h'
          subst h'
          rw [he] at ht
          obtain ⟨_, _, h3⟩ := R_ref.1 ht
          obtain ⟨cap, hv, c1, c2, c3⟩ := h3 es sz hb
          rw [hv]
          obtain ⟨cs, T, g1, _, g3⟩ := hI.good.live id es sz hb
          have hlen : ((es.drop off).take len).length = len := by simp; omega
          have hfree := kill_free hI.good hb (by simp)
          refine R_sl.2 ⟨some ⟨z.ρ id, off * sz, none⟩, cap, sz, by rw [hlen], by rw [hlen]; exact c1, by omega, (fun e => by cases e), fun e he => ?_, fun i e he => ?_, trivial⟩
          · obtain ⟨i, hi⟩ := List.mem_iff_getElem?.1 (List.mem_of_mem_drop (List.mem_of_mem_take he))
            exact (g3 i e hi).1
          · rw [List.getElem?_take] at he
            split at he
            · rw [List.getElem?_drop] at he
              refine ⟨z.ρ id, off * sz, rfl, fun j av hj => ?_⟩
              obtain ⟨u, g4, g5, g6⟩ := (g3 (off + i) e he).2 j av hj
              refine ⟨u, ?_, ?_, g5, R_step hT g6⟩
              · show cellAt z.h (z.ρ id) (off * sz + i * sz + j) = some u
                unfold cellAt; rw [g1, ← Nat.add_mul]; exact g4
              · rintro (hn | ⟨id', es', sz', h5, h6⟩ | ⟨t2, n, T2, h5, h6, _⟩)
                · exact hI.good.nl id es sz hb _ hn
                · exact hfree (.inl ⟨id', _, h5, by simp, h6⟩)
                · exact hfree (.inr ⟨t2, _, h5, h6⟩)
            · cases he
        · exact R_step hT (hI.env t')
      · cases h
    · cases h
  · cases h
theorem reg_code (hC : C.OK) {R' : Run} (hR : RunF C R') (hY : RunY C R') {ow : Ow} {id : Nat} {ops : Array Oper} {draw : Bool} {lo nt n : Nat} {ac : ACode} (htr : trReg C.P C.G ow C.md nt ops draw = some ac) {s s' : St} {e : Ex} {a : Act}
    (h : exec C.ft R' n ac s = some (e, s')) (hI : CInv C N lo nt z w s a) {F : Fence} {k : Nat} (hF : WideF F) {Q : Exit → Act → World → Prop} (hQ : ∀ ex a' w', ExM e ex → Post C N lo nt z w s' a' w' → Q ex a' w') : (Code.region id ops draw).wpIn F k C.P Q a w := by
  have htr' : trReg C.P C.G ow C.md a.tmps.size ops draw = some ac := by rw [hI.size]; exact htr
  have he : e = .nxt := (region_sound (id := id) (Q := fun _ _ _ => True) (F := Fence.wide) (k := 0) hC hR hY htr' h hI.good hI.heap hI.mem hI.env ⟨fun _ => trivial, rfl⟩ fun _ _ _ => trivial).1
  subst he
  refine (region_sound hC hR hY htr' h hI.good hI.heap hI.mem hI.env hF fun a' w' hst => ?_).2
  obtain ⟨z', g1, g2, g3, g4, g5, g6, g7, g8⟩ := hst
  exact hQ _ _ _ rfl ⟨z', g2, g8, g1, g3, g4, g5, g6.trans hI.size, Nat.le_trans hI.los g2.size, by rw [g7]; exact hI.marks.step hI.good g2⟩

/-- A scope through which the run goes without a goto. -/
theorem stepR_scope {P : Program} {b : Frame} {a : Act} {k : List Item} {cs : List Frame} {c : Code} : step P (lone (b.atR a (.code (.scope c) :: k)) cs w) = .next (lone (b.atR a (.code c :: .inScope c :: k)) cs w) :=
  step_lone_go (by simp [stepG, stepG.exec, Frame.atR])
theorem stepR_inScope {P : Program} {b : Frame} {a : Act} {k : List Item} {cs : List Frame} {c : Code} : step P (lone (b.atR a (.inScope c :: k)) cs w) = .next (lone (b.atR a k) cs w) :=
  step_lone_go (by simp [stepG, stepG.exec, Frame.atR])
theorem wpIn_scope {P : Program} {F : Fence} {n : Nat} {Q : Exit → Act → World → Prop} {a : Act} {c : Code} (h : c.wpIn F n P (fun e a w => (∀ l, e ≠ .goto l) ∧ Q e a w) a w) : (Code.scope c).wpIn F n P Q a w := by
  intro b k cs hro hb hr
  have h0 : (lone (b.atR a (.code (.scope c) :: k)) cs w).fenced P F := fenced_calm hb hr rfl
  obtain ⟨e, a₁, w₁, ⟨hg, hq⟩, harr⟩ := h b (.inScope c :: k) cs hro hb hr
  cases e with
  | normal => exact ⟨.normal, a₁, w₁, hq, .head h0 stepR_scope (StepsIn.trans harr (.one (fenced_calm hb hr rfl) stepR_inScope))⟩
  | exit id =>
    have hx : exitTo id (.inScope c :: k) = exitTo id k := by simp [exitTo]
    exact ⟨.exit id, a₁, w₁, hq, fun k' hk => .head h0 stepR_scope (harr.1 k' (by rw [hx]; exact hk)),
      fun hr' hk => let ⟨k₁, h1, h2⟩ := harr.2 hr' (by rw [hx]; exact hk); ⟨k₁, h1, .head h0 stepR_scope h2⟩⟩
  | goto l => exact absurd rfl (hg l)
  | ret => exact ⟨_, a₁, w₁, hq, .of_steps (.one h0 stepR_scope) harr⟩
  | panic ch => exact ⟨_, a₁, w₁, hq, .of_steps (.one h0 stepR_scope) harr⟩
  | outgrown => exact ⟨_, a₁, w₁, hq, .of_steps (.one h0 stepR_scope) harr⟩

theorem code_sound (hC : C.OK) {R' : Run} (hR : RunF C R') (hY : RunY C R') (hD : RunD C R') {ow : Ow} {nt n : Nat} : ∀ (c : Code) {ac : ACode}, tr C.P C.G ow C.md nt c = some ac → ∀ {lo : Nat} {z : Z} {w : World} {s s' : St} {e : Ex} {a : Act},
    exec C.ft R' n ac s = some (e, s') → CInv C N lo nt z w s a → ∀ {F : Fence} {k : Nat}, WideF F → (∀ l, F.round = some l → ∃ L, z.h[l]? = some (Obj.loop L)) → ∀ {Q : Exit → Act → World → Prop},
    (∀ ex a' w', ExM e ex → Post C N lo nt z w s' a' w' → Q ex a' w') → c.wpIn F k C.P Q a w
  | .skip, ac, htr, lo, z, w, s, s', e, a, h, hI, F, k, hF, hro, Q, hQ => by
    simp only [tr, Option.some.injEq] at htr
    subst htr
    simp only [exec, Option.some.injEq, Prod.mk.injEq] at h
    obtain ⟨rfl, rfl⟩ := h
    exact wpIn_skip (hQ _ _ _ rfl (Post.self hI))
  | .exit id, ac, htr, lo, z, w, s, s', e, a, h, hI, F, k, hF, hro, Q, hQ => by
    simp only [tr, Option.some.injEq] at htr
    subst htr
    simp only [exec, Option.some.injEq, Prod.mk.injEq] at h
    obtain ⟨rfl, rfl⟩ := h
    exact wpIn_exit (hQ _ _ _ rfl (Post.self hI))
  | .ret, ac, htr, lo, z, w, s, s', e, a, h, hI, F, k, hF, hro, Q, hQ => by
    simp only [tr, Option.some.injEq] at htr
    subst htr
    simp only [exec, Option.some.injEq, Prod.mk.injEq] at h
    obtain ⟨rfl, rfl⟩ := h
    exact wpIn_ret (hQ _ _ _ rfl (Post.self hI))
  | .region id ops draw, ac, htr, lo, z, w, s, s', e, a, h, hI, F, k, hF, hro, Q, hQ => by
    simp only [tr] at htr
    split at htr
    · obtain ⟨ac', h1, rfl⟩ := Option.map_eq_some_iff.1 htr
      simp only [exec] at h
      obtain ⟨hT, hJ⟩ := frz_sound hI
      exact reg_code hC hR hY h1 h hJ hF fun ex a' w' hex hp => hQ ex a' w' hex (hp.trans hT (WS.refl w))
    · split at htr
      · obtain ⟨ac', h1, rfl⟩ := Option.map_eq_some_iff.1 htr
        simp only [exec] at h
        split at h
        · rename_i s1 h2
          obtain ⟨p, h3, h4⟩ := Option.map_eq_some_iff.1 h2
          cases h4
          obtain ⟨z1, hT, _, hJ⟩ := frzs_sound hI h3
          exact reg_code hC hR hY h1 h hJ hF fun ex a' w' hex hp => hQ ex a' w' hex (hp.trans hT (WS.refl w))
        · rename_i hno
          obtain ⟨p, h3, h4⟩ := Option.map_eq_some_iff.1 h
          cases h4
          exact absurd h (hno _)
      · exact reg_code hC hR hY htr h hI hF hQ
  | .seq x y, ac, htr, lo, z, w, s, s', e, a, h, hI, F, k, hF, hro, Q, hQ => by
    simp only [tr, bind, Option.bind_eq_some_iff, pure, Option.some.injEq] at htr
    obtain ⟨ax, h1, ay, h2, rfl⟩ := htr
    refine wpIn_seq ?_
    simp only [exec] at h
    split at h
    · rename_i s1 h3
      refine code_sound hC hR hY hD x h1 h3 hI hF hro fun ex a1 w1 hex hp => ?_
      obtain rfl : ex = .normal := hex
      obtain ⟨z1, g1, g2, g3⟩ := hp
      refine code_sound hC hR hY hD y h2 h g3 hF (fun l hl => let ⟨L, hL⟩ := hro l hl; g1.loops l L hL) fun ex a2 w2 hex hp => hQ _ _ _ hex (hp.trans g1 g2)
    · rename_i hno
      refine code_sound hC hR hY hD x h1 h hI hF hro fun ex a1 w1 hex hp => ?_
      cases e with
      | nxt => exact absurd h (hno s')
      | out id => obtain rfl : ex = .exit id := hex; exact hQ _ _ _ rfl hp
      | ret => obtain rfl : ex = .ret := hex; exact hQ _ _ _ rfl hp
  | .cond c x y, ac, htr, lo, z, w, s, s', e, a, h, hI, F, k, hF, hro, Q, hQ => by
    simp only [tr, bind, Option.bind_eq_some_iff, pure, Option.some.injEq] at htr
    obtain ⟨sc, h0, ax, h1, ay, h2, rfl⟩ := htr
    have hcv := trX_sound hI.good hI.env h0
    simp only [exec] at h
    split at h
    · rename_i hc
      rw [hc] at hcv
      exact wpIn_cond_true (R_of_bool hcv) (code_sound hC hR hY hD x h1 h hI hF hro hQ)
    · rename_i hc
      rw [hc] at hcv
      exact wpIn_cond_false (R_of_bool hcv) (code_sound hC hR hY hD y h2 h hI hF hro hQ)
    · cases h
  | .block id b, ac, htr, lo, z, w, s, s', e, a, h, hI, F, k, hF, hro, Q, hQ => by
    simp only [tr, bind, Option.bind_eq_some_iff, pure, Option.some.injEq] at htr
    obtain ⟨ab, h1, rfl⟩ := htr
    refine wpIn_block ?_
    simp only [exec] at h
    split at h
    · rename_i j s1 h3
      refine code_sound hC hR hY hD b h1 h3 hI hF hro fun ex a1 w1 hex hp => ?_
      obtain rfl : ex = .exit j := hex
      show if j = id then Q .normal a1 w1 else Q (.exit j) a1 w1
      split at h
      · rename_i hj
        cases h
        rw [if_pos hj]; exact hQ _ _ _ rfl hp
      · rename_i hj
        cases h
        rw [if_neg hj]; exact hQ _ _ _ rfl hp
    · rename_i hno
      refine code_sound hC hR hY hD b h1 h hI hF hro fun ex a1 w1 hex hp => ?_
      cases e with
      | nxt => obtain rfl : ex = .normal := hex; exact hQ _ _ _ rfl hp
      | out j => exact absurd h (hno j s')
      | ret => obtain rfl : ex = .ret := hex; exact hQ _ _ _ rfl hp
  | .loop b, ac, htr, lo, z, w, s, s', e, a, h, hI, F, k, hF, hro, Q, hQ => by
    simp only [tr, bind, Option.bind_eq_some_iff, pure, Option.some.injEq] at htr
    obtain ⟨ab, h1, rfl⟩ := htr
    simp only [exec] at h
    have ih := @code_sound hC R' hR hY hD ow nt n b ab h1
    refine wpIn_loop_rounds n ?_
    have key : ∀ (j : Nat) {z1 : Z} {w1 : World} {s1 : St} {a1 : Act}, loopN (exec C.ft R' n ab) j s1 = some (e, s') → CInv C N lo nt z1 w1 s1 a1 → Tr C.P N z z1 → WS w w1 → Code.roundsIn F k C.P b Q j a1 w1 := by
      intro j
      induction j with
      | zero => intro z1 w1 s1 a1 h; cases h
      | succ j ihj =>
        intro z1 w1 s1 a1 h hI1 hT hw
        rw [roundsIn_succ]
        simp only [loopN] at h
        have hro1 : ∀ l, F.round = some l → ∃ L, z1.h[l]? = some (Obj.loop L) := fun l hl => let ⟨L, hL⟩ := hro l hl; hT.loops l L hL
        split at h
        · rename_i s2 h3
          refine ih h3 hI1 hF hro1 fun ex a2 w2 hex hp => ?_
          obtain rfl : ex = .normal := hex
          obtain ⟨z2, g1, g2, g3⟩ := hp
          exact ihj h g3 (hT.trans g1) (hw.trans g2)
        · rename_i hno
          refine ih h hI1 hF hro1 fun ex a2 w2 hex hp => ?_
          cases e with
          | nxt => exact absurd h (hno s')
          | out id => obtain rfl : ex = .exit id := hex; exact hQ _ _ _ rfl (hp.trans hT hw)
          | ret => obtain rfl : ex = .ret := hex; exact hQ _ _ _ rfl (hp.trans hT hw)
    exact key n h hI (Tr.refl z) (WS.refl w)
  | .rangeFunc g ps assign body, ac, htr, lo, z, w, s, s', e, a, h, hI, F, k, hF, hro, Q, hQ => range_sound hC hR hD htr h hI hF hro hQ
  | .scope b, ac, htr, lo, z, w, s, s', e, a, h, hI, F, k, hF, hro, Q, hQ => wpIn_scope (code_sound hC hR hY hD b (show tr C.P C.G ow C.md nt b = some ac from htr) h hI hF hro fun ex a' w' hex hp => ⟨fun l hl => (by subst hl; cases e <;> cases hex), hQ _ _ _ hex hp⟩)
  | .label l, ac, htr, lo, z, w, s, s', e, a, h, hI, F, k, hF, hro, Q, hQ => by
    simp only [tr, Option.some.injEq] at htr
    subst htr
    simp only [exec, Option.some.injEq, Prod.mk.injEq] at h
    obtain ⟨rfl, rfl⟩ := h
    exact wpIn_label (hQ _ _ _ rfl (Post.self hI))
  | .goto l, ac, htr, _, _, _, _, _, _, _, _, _, _, _, _, _, _, _ => by simp [tr] at htr
  | .refuse y, ac, htr, _, _, _, _, _, _, _, _, _, _, _, _, _, _, _ => by simp [tr] at htr
end
end Go.Ab
end

section
/-
  A loop over a map: its iterator anywhere in memory; a block that is away and comes back.
-/
namespace Go.Ab
section
variable {P : Program}

/-- 'next', the iterator at any place: nothing is left; or one entry that is left comes out, and its stamp goes among those seen. -/
theorem run_next_at (w : World) (ty : TypeId) (b bm since c0 : Nat) (seen : Array Nat) (es : Array MapEntry) (clock : Nat) (hi : w.heap[b]? = some (.mapIter (some bm) since seen c0)) (hb : w.heap[bm]? = some (.map es clock)) (hold : ∀ x ∈ es.toList, x.born < since) (hsc : since ≤ c0) :
    ((leftOf es seen).size = 0 ∧ (Instr.next (.pointer (some ⟨b, 0, none⟩)) false ty).run P w = .ok (.tuple #[.bool false]) w) ∨
    ∃ e ∈ (leftOf es seen).toList, ∃ w1 : World, WS w w1 ∧ w1.heap = w.heap.setIfInBounds b (.mapIter (some bm) since (seen.push e.born) clock) ∧ (Instr.next (.pointer (some ⟨b, 0, none⟩)) false ty).run P w = .ok (.tuple #[.bool true, e.key, e.val]) w1 := by
  simp only [Instr.next, getObj, Sem.run_bind, Sem.run, hi, hb, Result.andThen, next_test_false seen es since c0 hold hsc, Bool.false_eq_true, if_false]
  unfold leftOf
  have hmem : ∀ x ∈ (Array.filter (fun e => !seen.contains e.born) es).toList, x.born < since := fun x hx => hold x (by simp at hx ⊢; exact hx.1)
  generalize Array.filter (fun e => !seen.contains e.born) es = L at hmem ⊢
  have e1 : L.filter (fun x => decide (x.born < since)) = L := Array.filter_eq_self.2 (fun x hx => by simpa using hmem x (by simpa using hx))
  have e2 : L.filter (fun x => decide (x.born ≥ since)) = #[] := by
    rw [Array.filter_eq_empty_iff]
    intro x hx
    have := hmem x (by simpa using hx)
    simp
    omega
  simp only [e1, e2, Array.append_empty]
  by_cases h0 : L.size = 0
  · left
    have : L = #[] := Array.eq_empty_of_size_eq_zero h0
    subst this
    refine ⟨rfl, ?_⟩
    simp [choose, Sem.run, Question.forced]
  · right
    have hne : L.isEmpty = false := by simp [Array.isEmpty, h0]
    simp only [hne, Bool.false_eq_true, if_false, Array.empty_append, Array.size_map]
    have hch : ∃ (j : Nat) (w1 : World), j < L.size ∧ WS w w1 ∧ w1.heap = w.heap ∧ (choose (Question.mapNext L.size)).run P w = .ok j w1 := by
      by_cases hf : L.size ≤ 1
      · exact ⟨0, w, by omega, WS.refl w, rfl, by simp [choose, Sem.run, Question.forced, hf]⟩
      · exact ⟨_, w.drew, Nat.mod_lt _ (by omega), ⟨rfl, rfl, rfl⟩, rfl, by
          simp only [choose, Sem.run, Question.forced, decide_eq_true_eq, hf, if_false, Question.cut]
          rfl⟩
    obtain ⟨j, w1, hj, hws, hhp, hrun⟩ := hch
    have hi1 : w1.heap[b]? = some (.mapIter (some bm) since seen c0) := by rw [hhp]; exact hi
    have hset : ∀ o' : Obj, (setObj b o').run P w1 = .ok () { w1 with heap := w1.heap.setIfInBounds b o' } := fun o' => by
      simp only [setObj, Sem.run, hi1]
    refine ⟨L[j], by simp, { w1 with heap := w1.heap.setIfInBounds b (.mapIter (some bm) since (seen.push L[j].born) clock) }, ⟨hws.os, hws.tape, hws.output⟩, by rw [hhp], ?_⟩
    simp only [hrun, Array.getElem?_map, Array.getElem?_eq_getElem hj, Option.map_some, Sem.run_bind, hset, Result.andThen]
    rfl

/-- 'entry': the entry that 'next' gave last. -/
theorem run_entry_at (w : World) (b bm since : Nat) (seen : Array Nat) (es : Array MapEntry) (clock : Nat) (e : MapEntry) (hi : w.heap[b]? = some (.mapIter (some bm) since (seen.push e.born) clock)) (hb : w.heap[bm]? = some (.map es clock)) (he : e ∈ es.toList) (hn : (es.toList.map (·.born)).Nodup) :
    (Instr.entry (.pointer (some ⟨b, 0, none⟩))).run P w = .ok (.tuple #[e.key, e.val]) w := by
  have hf : es.find? (·.born == e.born) = some e := by rw [← Array.find?_toList]; exact find_born e es.toList hn he
  simp only [Instr.entry, getObj, Sem.run_bind, Sem.run, hi, hb, Result.andThen, Array.back?_push, bne_self_eq_false, Bool.false_eq_true, if_false, hf]
  rfl
end

section
variable {C : Cx} {N : Nat → Nat → Prop} {z z0 z1 z2 z3 : Z}

/-- The block comes back. -/
def Mem.back (m : Mem) (id : Nat) (k : Blk) : Mem := ⟨m.blks.set id k, m.toks⟩
theorem back_liv {m : Mem} {id : Nat} {kvs : List (AV × AV)} {ek : EK} : Liv m (m.back id (.mp kvs ek)) := ⟨rfl, by simp [Mem.back], fun i es sz h => by
  rcases set_get h with ⟨_, h1⟩ | ⟨_, h1⟩
  · cases h1
  · exact h1⟩
theorem back_tr (hG : Good C N z) {id : Nat} {kvs : List (AV × AV)} {ek : EK} (hb : z.m.blks[id]? = some (.mp kvs ek)) (hT : Tr C.P N (z.wm (z.m.kill id)) z3) : Tr C.P N z (z3.wm (z3.m.back id (.mp kvs ek))) := by
  have hK := kill_less z.m id
  have hidl : id < z.m.blks.length := (List.getElem?_eq_some_iff.1 hb).1
  have hlen : (z.m.kill id).blks.length = z.m.blks.length := hK.len
  constructor
  · exact hT.size
  · intro b o u h hx; exact hT.cell b o u h fun hy => hx (liv_X hK.liv hy)
  · intro b o hlt hx; exact liv_X hK.liv (hT.forb b o hlt (liv_X back_liv hx))
  · intro b hlt ho
    refine hT.other b hlt fun hy => ho ?_
    exact (less_tr (C := C) (N := N) hK).own b hlt hy
  · intro b hlt ho
    rcases ho with ⟨i, k, h1, h2, h3⟩ | ⟨t, x, h1, h2⟩
    · rcases set_get h1 with ⟨rfl, _⟩ | ⟨_, h5⟩
      · exact .inl ⟨i, _, hb, by simp, by rw [← h3]; exact (hT.rho i (by show i < (z.m.kill i).blks.length; rw [hlen]; exact hidl)).symm⟩
      · exact (less_tr (C := C) (N := N) hK).own b hlt (hT.own b hlt (.inl ⟨i, k, h5, h2, h3⟩))
    · exact (less_tr (C := C) (N := N) hK).own b hlt (hT.own b hlt (.inr ⟨t, x, h1, h2⟩))
  · show z.m.blks.length ≤ (z3.m.blks.set id _).length
    rw [List.length_set, ← hlen]; exact hT.blks
  · intro i hi; exact hT.rho i (by show i < (z.m.kill id).blks.length; rw [hlen]; exact hi)
  · intro i hi es sz h
    obtain ⟨⟨es0, h1⟩, h2⟩ := hT.live i (by show i < (z.m.kill id).blks.length; rw [hlen]; exact hi) es sz (back_liv.live _ _ _ h)
    exact ⟨⟨es0, hK.liv.live _ _ _ h1⟩, h2⟩
  · exact hT.toks
  · exact hT.tok
  · exact hT.loops
theorem back_good (hG : Good C N z) {id : Nat} {kvs : List (AV × AV)} {ek : EK} (hb : z.m.blks[id]? = some (.mp kvs ek)) (hT : Tr C.P N (z.wm (z.m.kill id)) z3) (hG3 : Good C N z3) : Good C N (z3.wm (z3.m.back id (.mp kvs ek))) := by
  have hidl : id < z.m.blks.length := (List.getElem?_eq_some_iff.1 hb).1
  have hlt : z.ρ id < z.h.size := hG.rho_lt hb (by simp)
  have hrho : z3.ρ id = z.ρ id := hT.rho id (by show id < (z.m.kill id).blks.length; rw [(kill_less z.m id).len]; exact hidl)
  have hfree : ¬Own z3 (z3.ρ id) := fun ho => by rw [hrho] at ho; exact kill_free hG hb (by simp) (hT.own _ hlt ho)
  have hobj : z3.h[z.ρ id]? = z.h[z.ρ id]? := hT.other _ hlt (kill_free hG hb (by simp))
  have hR : ∀ {a : AV} {v : Value}, R C.P N z3 a v → R C.P N (z3.wm (z3.m.back id (.mp kvs ek))) a v := fun k => liv_R back_liv k
  have hne : ∀ {i : Nat} {k' : Blk}, z3.m.blks[i]? = some k' → k' ≠ .dead → z3.ρ i ≠ z3.ρ id := fun h1 h2 h3 => hfree (.inl ⟨_, _, h1, h2, h3⟩)
  constructor
  · intro i es sz h
    obtain ⟨cs, T, h2, h3, h4⟩ := hG3.live i es sz (back_liv.live _ _ _ h)
    exact ⟨cs, T, h2, h3, fun i e he => ⟨(h4 i e he).1, fun j a ha => let ⟨u, h5, h6, h7⟩ := (h4 i e he).2 j a ha; ⟨u, h5, h6, hR h7⟩⟩⟩
  · exact hG3.tok
  · intro i i' k1 k2 h1 h2 d1 d2 e
    rcases set_get h1 with ⟨rfl, _⟩ | ⟨_, h3⟩ <;> rcases set_get h2 with ⟨rfl, _⟩ | ⟨_, h4⟩
    · rfl
    · exact absurd e.symm (hne h4 d2)
    · exact absurd e (hne h3 d1)
    · exact hG3.rr i i' k1 k2 h3 h4 d1 d2 e
  · intro i k1 t x h1 d1 h2
    rcases set_get h1 with ⟨rfl, _⟩ | ⟨_, h3⟩
    · exact fun e => hfree (.inr ⟨t, x, h2, e.symm⟩)
    · exact hG3.rt i k1 t x h3 d1 h2
  · exact hG3.tt
  · intro i es sz h
    exact hG3.nl i es sz (back_liv.live _ _ _ h)
  · exact hG3.nt
  · exact hG3.no
  · intro i env ps asg body rdy pend h
    rcases set_get h with ⟨_, h3⟩ | ⟨_, h3⟩
    · cases h3
    · obtain ⟨L, h2, h3, h4, h5, h6, h6', h7, h8, h9⟩ := hG3.lp i env ps asg body rdy pend h3
      exact ⟨L, h2, h3, h4, h5, h6, h6', fun t => hR (h7 t), h8, h9⟩
  · intro g e k; exact hR (hG3.glob g e k)
  · intro i kvs' ek' h
    rcases set_get h with ⟨rfl, h3⟩ | ⟨_, h3⟩
    · cases h3
      obtain ⟨es, clock, h4, h5⟩ := hG.mp i kvs ek hb
      refine ⟨es, clock, ?_, h5.step (back_tr hG hb hT)⟩
      show z3.h[z3.ρ i]? = _
      rw [hrho, hobj]; exact h4
    · obtain ⟨es, clock, h4, h5⟩ := hG3.mp i kvs' ek' h3
      exact ⟨es, clock, h4, h5.map hR⟩
end
end Go.Ab
end

section
/-
  A loop over a map: what the abstract machine does, the code does.
-/
namespace Go.Ab
section
variable {C : Cx} {N : Nat → Nat → Prop} {z z0 z1 z2 z3 : Z} {w w0 w1 : World}

/-- Some of a region's operations, and others behind them. -/
theorem region_listK (hC : C.OK) {R' : Run} (hR : RunF C R') (hY : RunY C R') {ow : Ow} {ops : Array Oper} {Q : Exit → Act → World → Prop} {F : Fence} {k : Nat} (hF : WideF F) (rest : List Oper) :
    ∀ (l : List Oper) (as : List AI) (z : Z) (w : World) (s s' : St) (a : Act), l.mapM (trOper C.P C.G ow a.tmps.size ops) = some as → execOps C.ft R' as s = some s' → Good C N z → z.h = w.heap → z.m = s.mem → EnvOK C N z s.env a →
      (∀ a' w', Step C N z a w s' a' w' → wpListIn F k C.P ops Q rest a' w') → wpListIn F k C.P ops Q (l ++ rest) a w
  | [], as, z, w, s, s', a, htr, h, hG, hh, hm, he, hK => by
    simp at htr
    subst htr
    cases h
    exact hK _ _ ⟨z, hG, Tr.refl z, hh, hm, he, rfl, rfl, WS.refl w⟩
  | o :: l, as, z, w, s, s', a, htr, h, hG, hh, hm, he, hK => by
    simp only [List.mapM_cons, bind, Option.bind_eq_some_iff, pure, Option.some.injEq] at htr
    obtain ⟨ai, h1, as', h2, rfl⟩ := htr
    simp only [execOps, Option.bind_eq_some_iff] at h
    obtain ⟨s1, h3, h4⟩ := h
    show if Region.wanted o (yielded ops a.tmps) then o.wpIn F k C.P a w (wpListIn F k C.P ops Q (l ++ rest)) Q else (∀ f, o.about C.P w a.eval = some f → F.fn f) ∧ wpListIn F k C.P ops Q (l ++ rest) (a.put o.dst undef) w
    refine operI_sound hC hR hY hG hh hm he h1 h3 (fun a' w' hst => ?_) hF
    obtain ⟨z1, g1, g2, g3, g4, g5, g6, g7, g8⟩ := hst
    exact region_listK hC hR hY hF rest l as' z1 w' s1 s' a' (by rw [g6]; exact h2) h4 g1 g3 g4 g5 fun a2 w2 h5 => hK _ _ (h5.trans g2 g6 g7 g8)
/-- One operation that gives a value. -/
theorem op_value {F : Fence} {k : Nat} (hF : WideF F) {ops : Array Oper} {Q : Exit → Act → World → Prop} {rest : List Oper} {o : Oper} (hg : o.guard = none) (hd : ∀ c, o.op ≠ .defer c) {a : Act} {v : Value} {w' : World} (h : (execOp a.eval o).run C.P w = .ok (.value v) w')
    (hK : wpListIn F k C.P ops Q rest (a.put o.dst v) w') : wpListIn F k C.P ops Q (o :: rest) a w := by
  show if Region.wanted o (yielded ops a.tmps) then o.wpIn F k C.P a w (wpListIn F k C.P ops Q rest) Q else _
  rw [if_pos (by simp [Region.wanted, hg])]
  refine ⟨fun f _ => hF.fn f, ?_⟩
  rw [Oper.semAt_plain F _ _ hd, h, Oper.uponIn_value]
  exact hK
theorem iter_free (hG : Good C N z) {r : Nat} {m : Option Nat} {x y : Nat} {s : Array Nat} (h : z.h[r]? = some (.mapIter m x s y)) : ¬Own z r := by
  rintro (⟨id, k, h1, h2, rfl⟩ | ⟨t, ⟨n, T⟩, h1, rfl⟩)
  · cases k with
    | live es sz => obtain ⟨cs, T, h3, _⟩ := hG.live id es sz h1; rw [h] at h3; cases h3
    | dead => exact h2 rfl
    | lp env ps asg body rdy pend => obtain ⟨L, h3, _⟩ := lp_of hG h1; rw [h] at h3; cases h3
    | mp kvs ek => obtain ⟨es, clock, h3, _⟩ := hG.mp id kvs ek h1; rw [h] at h3; cases h3
  · obtain ⟨cs, cap, h3, _⟩ := hG.tok t n T h1; rw [h] at h3; cases h3
theorem CInv.put {lo nt : Nat} {s : St} {a : Act} (hI : CInv C N lo nt z w s a) {t : Nat} (ht : t < nt) {av : AV} {v : Value} (hv : R C.P N z av v) : CInv C N lo nt z w (s.put (some t) av) (a.put (some t) v) :=
  ⟨hI.good, hI.heap, hI.mem, env_put hI.env (Tr.refl z) hv (fun t' h => by cases h; rw [hI.size]; exact ht) rfl, (put_size _ _ _).trans hI.size, hI.los, by rw [put_defers]; exact hI.marks⟩
theorem eval_put {a : Act} {t : Nat} (ht : t < a.tmps.size) (v : Value) : (a.put (some t) v).eval (.tmp t) = v := by
  show (a.tmps.setIfInBounds t v).getD t undef = v
  simp [Array.getD_eq_getD_getElem?, Array.getElem?_setIfInBounds_self_of_lt ht]
theorem eval_ne {a : Act} {t t' : Nat} (ht : t' ≠ t) (v : Value) : (a.put (some t) v).eval (.tmp t') = a.eval (.tmp t') := by
  show (a.tmps.setIfInBounds t v).getD t' undef = a.tmps.getD t' undef
  simp [Array.getD_eq_getD_getElem?, Array.getElem?_setIfInBounds_ne (Ne.symm ht)]
theorem isItr_eq {i0 : Nat} {v : AV} (h : isItr i0 v = true) : v = .itr i0 := by
  unfold isItr at h
  split at h
  · rw [beq_iff_eq.1 h]
  · cases h
theorem rounds_itr {p : St → Option St} {t : St → Option (Ex × St)} {it nx ok i0 en B Cc : Nat} {π : List (AV × AV)} {s : St} {q : Ex × St} (h : rounds p t it nx ok i0 en B Cc π s = some q) : s.env it = .itr i0 := by
  cases π <;> simp only [rounds] at h <;> split at h <;> first | exact isItr_eq ‹_› | cases h
theorem clean_put {s : St} {n0 mid t : Nat} {b : Blk} {fg : List Nat} (ht : t ∈ fg) (v : AV) : (s.put (some t) v).clean n0 mid b fg = s.clean n0 mid b fg := by
  simp only [St.clean, St.put]
  congr 1
  funext t'
  by_cases h : fg.contains t' = true
  · rw [if_pos h, if_pos h]
  · rw [if_neg h, if_neg h]
    exact upd_ne _ _ _ _ (eq_false fun e => h (by rw [e]; exact List.contains_iff_mem.2 ht))

/-- The entries that are left. -/
def restOf (kes : List ((AV × AV) × MapEntry)) (seen : Array Nat) : List (AV × AV) := (kes.filter fun p => !seen.contains p.2.born).map (·.1)
theorem rest_perm (seen : Array Nat) (p : (AV × AV) × MapEntry) (hp : seen.contains p.2.born = false) : ∀ kes : List ((AV × AV) × MapEntry), (kes.map (·.2.born)).Nodup → p ∈ kes → (p.1 :: restOf kes (seen.push p.2.born)).Perm (restOf kes seen)
  | x :: l, hn, he => by
    have hn' : x.2.born ∉ l.map (·.2.born) ∧ (l.map (·.2.born)).Nodup := List.nodup_cons.1 hn
    unfold restOf
    rcases List.mem_cons.1 he with rfl | h
    · have e1 : (!(seen.push p.2.born).contains p.2.born) = false := by rw [contains_push, beq_self_eq_true, Bool.or_true]; rfl
      have e2 : l.filter (fun q => !(seen.push p.2.born).contains q.2.born) = l.filter (fun q => !seen.contains q.2.born) := List.filter_congr fun q hq => by
        rw [contains_push]
        have : (q.2.born == p.2.born) = false := by
          cases hc : q.2.born == p.2.born with
          | false => rfl
          | true => exact absurd (List.mem_map.2 ⟨q, hq, beq_iff_eq.1 hc⟩) hn'.1
        rw [this, Bool.or_false]
      rw [List.filter_cons, List.filter_cons, e1, hp, e2]
      exact List.Perm.refl _
    · have hx : (x.2.born == p.2.born) = false := by
        cases hc : x.2.born == p.2.born with
        | false => rfl
        | true => exact absurd (List.mem_map.2 ⟨p, h, (beq_iff_eq.1 hc).symm⟩) hn'.1
      have ih := rest_perm seen p hp l hn'.2 h
      unfold restOf at ih
      rw [List.filter_cons, List.filter_cons, contains_push, hx, Bool.or_false]
      cases hs : seen.contains x.2.born with
      | true => exact ih
      | false => exact (List.Perm.swap _ _ _).trans (ih.cons x.1)

/-- A loop over the map of block mid, somewhere in it. -/
structure RgI (C : Cx) (N : Nat → Nat → Prop) (lo nt : Nat) (z0 : Z) (w0 : World) (mid clock : Nat) (z : Z) (w : World) (s : St) (a : Act) (seen : Array Nat) (c0 : Nat) : Prop where
  inv : CInv C N lo nt z w s a
  tr : Tr C.P N (z0.wm (z0.m.kill mid)) z
  it : z.h[z0.h.size]? = some (.mapIter (some (z0.ρ mid)) clock seen c0)
  c0 : clock ≤ c0
  lt : z0.m.blks.length < z.m.blks.length
  rho : z.ρ z0.m.blks.length = z0.h.size
  ws : WS w0 w
section
variable {lo nt mid clock : Nat} {s : St} {a : Act} {seen : Array Nat} {c0 : Nat}
theorem RgI.post (h : RgI C N lo nt z0 w0 mid clock z w s a seen c0) {s' : St} {a' : Act} {w' : World} (hp : Post C N lo nt z w s' a' w') : ∃ z', Tr C.P N z z' ∧ RgI C N lo nt z0 w0 mid clock z' w' s' a' seen c0 := by
  obtain ⟨z', g1, g2, g3⟩ := hp
  refine ⟨z', g1, g3, h.tr.trans g1, ?_, h.c0, Nat.lt_of_lt_of_le h.lt g1.blks, (g1.rho _ h.lt).trans h.rho, h.ws.trans g2⟩
  rw [g1.other _ (Array.getElem?_eq_some_iff.1 h.it).1 (iter_free h.inv.good h.it)]
  exact h.it
theorem RgI.put (h : RgI C N lo nt z0 w0 mid clock z w s a seen c0) {t : Nat} (ht : t < nt) {av : AV} {v : Value} (hv : R C.P N z av v) : RgI C N lo nt z0 w0 mid clock z w (s.put (some t) av) (a.put (some t) v) seen c0 :=
  ⟨h.inv.put ht hv, h.tr, h.it, h.c0, h.lt, h.rho, h.ws⟩
theorem RgI.next (h : RgI C N lo nt z0 w0 mid clock z w s a seen c0) {b : Nat} (hw : WS w w1) (hh : w1.heap = w.heap.setIfInBounds z0.h.size (.mapIter (some (z0.ρ mid)) clock (seen.push b) clock)) :
    RgI C N lo nt z0 w0 mid clock { z with h := w1.heap } w1 s a (seen.push b) clock := by
  have hlt := (Array.getElem?_eq_some_iff.1 h.it).1
  have hne : ∀ r : Nat, r ≠ z0.h.size → w1.heap[r]? = z.h[r]? := fun r hr => by rw [hh, ← h.inv.heap, Array.getElem?_setIfInBounds_ne (Ne.symm hr)]
  have heq : w1.heap[z0.h.size]? = some (.mapIter (some (z0.ρ mid)) clock (seen.push b) clock) := by rw [hh, ← h.inv.heap, Array.getElem?_setIfInBounds_self_of_lt hlt]
  have sc : SameC z.h w1.heap := ⟨by rw [hh, ← h.inv.heap]; simp, fun r => by
    by_cases hr : r = z0.h.size
    · subst hr; exact .inr ⟨⟨_, h.it, rfl⟩, ⟨_, heq, rfl⟩⟩
    · exact .inl (hne r hr)⟩
  refine ⟨⟨same_good sc h.inv.good, rfl, h.inv.mem, fun t => same_R sc (h.inv.env t), h.inv.size, ?_, ?_⟩, same_tr sc h.tr fun r hr => hne r ?_, heq, Nat.le_refl _, h.lt, h.rho, h.ws.trans hw⟩
  · show lo ≤ w1.heap.size
    rw [sc.size]; exact h.inv.los
  · obtain ⟨rs, g1, g2, g3⟩ := h.inv.marks
    refine ⟨rs, g1, g2, fun r hr => ⟨(g3 r hr).1, ?_⟩⟩
    show w1.heap[r]? = _
    rw [hne r fun e => by have := (g3 r hr).2; rw [e, h.it] at this; cases this]
    exact (g3 r hr).2
  · have : r < z0.h.size := hr
    omega
theorem clean_mem {bs : List Blk} {n0 id : Nat} (h0 : n0 ≤ bs.length) (hi : id < n0) (b : Blk) : (bs.take n0).set id b ++ (bs.drop n0).map (fun _ => Blk.dead) = (bs.take n0 ++ (bs.drop n0).map (fun _ => Blk.dead)).set id b := by
  rw [List.set_append_left _ _ (by rw [List.length_take]; omega)]
theorem shut_less (m : Mem) (n0 : Nat) : Less m ⟨m.blks.take n0 ++ (m.blks.drop n0).map (fun _ => Blk.dead), m.toks⟩ := ⟨rfl, by simp; omega, fun i k h => by
  by_cases hi : i < (m.blks.take n0).length
  · rw [List.getElem?_append_left hi] at h
    exact .inr (by rw [List.getElem?_take] at h; split at h; exact h; cases h)
  · rw [List.getElem?_append_right (by omega), List.getElem?_map, Option.map_eq_some_iff] at h
    obtain ⟨_, _, rfl⟩ := h
    exact .inl rfl⟩
/-- The loop ends. -/
theorem RgI.fin (hG : Good C N z0) {kvs : List (AV × AV)} {ek : EK} (hb : z0.m.blks[mid]? = some (.mp kvs ek)) (h : RgI C N lo nt z0 w0 mid clock z w s a seen c0) (fg : List Nat) : Post C N lo nt z0 w0 (s.clean z0.m.blks.length mid (.mp kvs ek) fg) a w := by
  have hidl : mid < z0.m.blks.length := (List.getElem?_eq_some_iff.1 hb).1
  let m3 : Mem := ⟨z.m.blks.take z0.m.blks.length ++ (z.m.blks.drop z0.m.blks.length).map (fun _ => Blk.dead), z.m.toks⟩
  have hl : Less z.m m3 := shut_less _ _
  have hT3 : Tr C.P N (z0.wm (z0.m.kill mid)) (z.wm m3) := h.tr.trans (less_tr hl)
  have hG3 : Good C N (z.wm m3) := less_good hl h.inv.good
  refine ⟨(z.wm m3).wm (m3.back mid (.mp kvs ek)), back_tr hG hb hT3, h.ws, back_good hG hb hT3 hG3, h.inv.heap, ?_, fun t => ?_, h.inv.size, h.inv.los, h.inv.marks⟩
  · show (⟨_, _⟩ : Mem) = ⟨_, _⟩
    rw [← h.inv.mem, clean_mem (Nat.le_of_lt h.lt) hidl]
  · show R C.P N _ (if fg.contains t = true then .undef else s.env t) _
    split
    · exact R_undef _
    · exact liv_R (z := z.wm m3) back_liv (liv_R hl.liv (h.inv.env t))
end
section
variable {lo nt mid clock : Nat} {s : St} {a : Act} {seen : Array Nat} {c0 : Nat}
theorem zip_mem {α β : Type} : ∀ {as : List α} {bs : List β}, as.length = bs.length → ∀ {b : β}, b ∈ bs → ∃ (i : Nat) (a : α), (a, b) ∈ as.zip bs ∧ as[i]? = some a ∧ bs[i]? = some b
  | [], [], _, _, h => by cases h
  | [], _ :: _, h, _, _ => by simp at h
  | _ :: _, [], h, _, _ => by simp at h
  | a :: as, b :: bs, hl, x, h => by
    rcases List.mem_cons.1 h with rfl | h
    · exact ⟨0, a, by simp, rfl, rfl⟩
    · obtain ⟨i, a', h1, h2, h3⟩ := zip_mem (show as.length = bs.length by simpa using hl) h
      exact ⟨i + 1, a', by simp [h1], by simpa using h2, by simpa using h3⟩
theorem zip_snd {α β : Type} : ∀ {as : List α} {bs : List β}, as.length = bs.length → (as.zip bs).map (·.2) = bs
  | [], [], _ => rfl
  | [], _ :: _, h => by simp at h
  | _ :: _, [], h => by simp at h
  | a :: as, b :: bs, hl => by simp [zip_snd (show as.length = bs.length by simpa using hl)]

theorem rounds_sound (hC : C.OK) {R' : Run} (hR : RunF C R') (hY : RunY C R') (hD : RunD C R') {ow : Ow} {n : Nat} {F : Fence} {k : Nat} (hF : WideF F) (hro : ∀ l, F.round = some l → ∃ L, z0.h[l]? = some (Obj.loop L))
    (hG : Good C N z0) {kvs : List (AV × AV)} {ek : EK} (hb : z0.m.blks[mid]? = some (.mp kvs ek)) {es : Array MapEntry} (hobj : z0.h[z0.ρ mid]? = some (.map es clock)) {es' : List MapEntry} (hpm : es'.Perm es.toList) (hmp : MpOK C.P N z0 ek kvs es' clock)
    {it nx ok en B Cc : Nat} {ty1 ty2 ty3 : TypeId} {p1 p2 p3 : String} {f1 f2 f3 : Array Edge} {id1 id2 : Nat} {ops1 ops2 : Array Oper} {opost : List Oper} {tail : Code} {post : List AI} {atail : ACode} {fg : List Nat}
    (h1 : ops1.toList = [⟨some nx, .next (.tmp it) false, ty1, p1, f1, none⟩, ⟨some ok, .extract (.tmp nx) 0, ty2, p2, f2, none⟩]) (h2 : ops2.toList = ⟨some en, .entry (.tmp it), ty3, p3, f3, none⟩ :: opost)
    (hp : opost.mapM (trOper C.P C.G ow nt ops2) = some post) (ht : tr C.P C.G ow C.md nt tail = some atail) (hnx : nx < nt) (hok : ok < nt) (hen : en < nt) (d1 : it ≠ nx) (d2 : it ≠ ok) (gn : nx ∈ fg) (go : ok ∈ fg)
    {e : Ex} {s' : St} {Q : Exit → Act → World → Prop} (hQ : ∀ ex a' w', ExM e ex → Post C N lo nt z0 w0 s' a' w' → Q ex a' w') :
    ∀ (m : Nat) (seen : Array Nat) (c0 : Nat) (z : Z) (w : World) (s : St) (a : Act), (leftOf es seen).size < m → RgI C N lo nt z0 w0 mid clock z w s a seen c0 →
      (∀ π, π.Perm (restOf (kvs.zip es') seen) → (rounds (execOps C.ft R' post) (exec C.ft R' n atail) it nx ok z0.m.blks.length en B Cc π s).map (fun p => (p.1, p.2.clean z0.m.blks.length mid (.mp kvs ek) fg)) = some (e, s')) →
      Code.roundsIn F k C.P (.seq (.region id1 ops1 false) (.seq (.cond (.tmp ok) .skip (.exit B)) (.block Cc (.seq (.region id2 ops2 false) tail)))) (Exit.inBlock B Q) m a w := by
  intro m
  induction m with
  | zero => intro seen c0 z w s a hlt; omega
  | succ m ih =>
    intro seen c0 z w s a hlt hI H
    obtain ⟨⟨q0, s0'⟩, hq0, _⟩ := Option.map_eq_some_iff.1 (H _ (List.Perm.refl _))
    have hIt := rounds_itr hq0
    have hiv : a.eval (.tmp it) = .pointer (some ⟨z0.h.size, 0, none⟩) := by
      have := hI.inv.env it
      rw [hIt] at this
      rw [← hI.rho]
      exact (R_itr.1 this).2
    have hsz : a.tmps.size = nt := hI.inv.size
    have hobjz : w.heap[z0.ρ mid]? = some (.map es clock) := by
      rw [← hI.inv.heap, hI.tr.other _ (hG.rho_lt hb (by simp)) (kill_free hG hb (by simp))]
      exact hobj
    have hitw : w.heap[z0.h.size]? = some (.mapIter (some (z0.ρ mid)) clock seen c0) := by rw [← hI.inv.heap]; exact hI.it
    have hlen := hmp.1.1
    have hbn : ∀ e ∈ es.toList, e.born < clock := fun e he => hmp.1.2.1 e (hpm.mem_iff.2 he)
    have hnd : (es.toList.map (·.born)).Nodup := (hpm.map (·.born)).nodup_iff.1 hmp.1.2.2
    rw [roundsIn_succ]
    refine wpIn_seq ?_
    refine wpIn_region_list ?_
    rw [h1]
    rcases run_next_at (P := C.P) w ty1 z0.h.size (z0.ρ mid) clock c0 seen es clock hitw hobjz hbn hI.c0 with ⟨hz, hrun⟩ | ⟨en', hen', w1, hw1, hh1, hrun⟩
    · -- nothing is left
      have hrest : restOf (kvs.zip es') seen = [] := by
        unfold restOf
        rw [List.map_eq_nil_iff, List.filter_eq_nil_iff]
        intro p hpz
        rw [all_seen es seen hz p.2 (hpm.mem_iff.1 (List.of_mem_zip hpz).2)]
        decide
      have H0 := H [] (by rw [hrest])
      simp only [rounds, hIt, isItr, beq_self_eq_true, if_true, Option.map_some, Option.some.injEq, Prod.mk.injEq] at H0
      obtain ⟨rfl, rfl⟩ := H0
      refine op_value hF rfl (fun _ => by simp) (v := .tuple #[.bool false]) (w' := w) ?_ ?_
      · show (vN (Instr.next (a.eval (.tmp it)) false ty1)).run C.P w = _
        rw [hiv]; exact vN_ok hrun
      refine op_value hF rfl (fun _ => by simp) (v := .bool false) (w' := w) ?_ ?_
      · show (vN (Instr.extract ((a.put (some nx) (.tuple #[.bool false])).eval (.tmp nx)) 0)).run C.P w = _
        rw [eval_put (by rw [hsz]; exact hnx)]
        exact vN_ok rfl
      have hI2 := (hI.put hnx (R_undef (.tuple #[.bool false]))).put hok (R_undef (.bool false))
      refine wpIn_seq (wpIn_cond_false (eval_put (by rw [put_size, hsz]; exact hok) _) (wpIn_exit ?_))
      show if B = B then Q .normal _ _ else Q (.exit B) _ _
      rw [if_pos rfl]
      have hfin := hI2.fin hG hb fg
      rw [clean_put go, clean_put gn] at hfin
      exact hQ _ _ _ rfl hfin
    · -- an entry comes
      obtain ⟨hm1, hm2⟩ := mem_left hen'
      obtain ⟨i, kv, hz1, hz2, hz3⟩ := zip_mem hlen (hpm.mem_iff.2 hm1)
      have hperm := rest_perm seen (kv, en') hm2 (kvs.zip es') (by
        have : (kvs.zip es').map (fun p => p.2.born) = ((kvs.zip es').map (·.2)).map (·.born) := by rw [List.map_map]; rfl
        rw [this, zip_snd hlen]; exact hmp.1.2.2) hz1
      have hshr := left_shrinks es seen en' hen'
      obtain ⟨_, hRk, hRv⟩ := hmp.2 i kv en' hz2 hz3
      refine op_value hF rfl (fun _ => by simp) (v := .tuple #[.bool true, en'.key, en'.val]) (w' := w1) ?_ ?_
      · show (vN (Instr.next (a.eval (.tmp it)) false ty1)).run C.P w = _
        rw [hiv]; exact vN_ok hrun
      refine op_value hF rfl (fun _ => by simp) (v := .bool true) (w' := w1) ?_ ?_
      · show (vN (Instr.extract ((a.put (some nx) (.tuple #[.bool true, en'.key, en'.val])).eval (.tmp nx)) 0)).run C.P w1 = _
        rw [eval_put (by rw [hsz]; exact hnx)]
        exact vN_ok rfl
      have hI1 := ((hI.next hw1 hh1).put hnx (R_undef (.tuple #[.bool true, en'.key, en'.val]))).put hok (R_undef (.bool true))
      refine wpIn_seq (wpIn_cond_true (eval_put (by rw [put_size, hsz]; exact hok) _) (wpIn_skip ?_))
      refine wpIn_block (wpIn_seq (wpIn_region_list ?_))
      rw [h2]
      have hev : ((a.put (some nx) (.tuple #[.bool true, en'.key, en'.val])).put (some ok) (.bool true)).eval (.tmp it) = .pointer (some ⟨z0.h.size, 0, none⟩) := by
        rw [eval_ne d2, eval_ne d1]; exact hiv
      have hobj1 : w1.heap[z0.ρ mid]? = some (.map es clock) := by
        have h9 := hG.rho_lt hb (by simp)
        rw [hh1, Array.getElem?_setIfInBounds_ne (by omega)]; exact hobjz
      refine op_value hF rfl (fun _ => by simp) (v := .tuple #[en'.key, en'.val]) (w' := w1) ?_ ?_
      · show (vN (Instr.entry (((a.put (some nx) (.tuple #[.bool true, en'.key, en'.val])).put (some ok) (.bool true)).eval (.tmp it)))).run C.P w1 = _
        rw [hev]
        exact vN_ok (run_entry_at w1 z0.h.size (z0.ρ mid) clock seen es clock en' (by have := hI1.it; rw [hI1.inv.heap] at this; exact this) hobj1 hm1 hnd)
      have hT1 := hI1.tr
      have hR1 : ∀ {x : AV} {v : Value}, R C.P N z0 x v → R C.P N { z with h := w1.heap } x v := fun hx => R_step hT1 (liv_R (kill_less z0.m mid).liv hx)
      have hI3 := hI1.put hen (av := .tup [kv.1, kv.2]) (v := .tuple #[en'.key, en'.val]) (R_tup.2 ⟨_, rfl, rfl, fun j x u h5 h6 => by
        match j with
        | 0 => simp at h5 h6; subst h5; subst h6; exact hR1 hRk
        | 1 => simp at h5 h6; subst h5; subst h6; exact hR1 hRv
        | j + 2 => simp at h5⟩)
      -- what the abstract machine does with it
      have hstep := fun (π : List (AV × AV)) (hπ : π.Perm (restOf (kvs.zip es') (seen.push en'.born))) => H (kv :: π) ((hπ.cons kv).trans hperm)
      simp only [rounds, hIt, isItr, beq_self_eq_true, if_true] at hstep
      obtain ⟨q, hq, _⟩ := Option.map_eq_some_iff.1 (hstep _ (List.Perm.refl _))
      obtain ⟨s1, hx1, hq⟩ := Option.bind_eq_some_iff.1 hq
      obtain ⟨⟨x2, s2⟩, hx2, _⟩ := Option.bind_eq_some_iff.1 hq
      simp only [hx1, hx2, Option.bind_some] at hstep
      refine region_list hC hR hY hF opost post _ w1 _ s1 _ (by rw [hI3.inv.size]; exact hp) hx1 hI3.inv.good hI3.inv.heap hI3.inv.mem hI3.inv.env fun a4 w4 hst => ?_
      obtain ⟨z4, g1, g2, g3, g4, g5, g6, g7, g8⟩ := hst
      obtain ⟨z5, hT5, hI5⟩ := hI3.post ⟨z4, g2, g8, g1, g3, g4, g5, g6.trans hI3.inv.size, Nat.le_trans hI3.inv.los g2.size, by rw [g7]; exact hI3.inv.marks.step hI3.inv.good g2⟩
      refine code_sound hC hR hY hD tail ht hx2 hI5.inv hF (fun l hl => let ⟨L, hL⟩ := hro l hl; hI5.tr.loops l L hL) fun ex a6 w6 hex hpost => ?_
      obtain ⟨z6, hT6, hI6⟩ := hI5.post hpost
      cases x2 with
      | nxt =>
        obtain rfl : ex = .normal := hex
        exact ih _ _ _ _ _ _ (by omega) hI6 hstep
      | ret =>
        obtain rfl : ex = .ret := hex
        have h0 := hstep _ (List.Perm.refl _)
        simp only [Option.map_some, Option.some.injEq, Prod.mk.injEq] at h0
        obtain ⟨rfl, rfl⟩ := h0
        exact hQ _ _ _ rfl (hI6.fin hG hb fg)
      | out j =>
        obtain rfl : ex = .exit j := hex
        show if j = Cc then Code.roundsIn F k C.P _ (Exit.inBlock B Q) m a6 w6 else if j = B then Q .normal a6 w6 else Q (.exit j) a6 w6
        by_cases hj : j = Cc
        · simp only [hj, if_true] at hstep
          rw [if_pos hj]
          exact ih _ _ _ _ _ _ (by omega) hI6 hstep
        · have h0 := hstep _ (List.Perm.refl _)
          simp only [if_neg hj, Option.map_some, Option.some.injEq, Prod.mk.injEq] at h0
          obtain ⟨rfl, rfl⟩ := h0
          rw [if_neg hj]
          by_cases hB : j = B
          · rw [if_pos hB]
            exact hQ _ _ _ (by rw [if_pos hB]; rfl) (hI6.fin hG hb fg)
          · rw [if_neg hB]
            exact hQ _ _ _ (by rw [if_neg hB]; rfl) (hI6.fin hG hb fg)
end
end
end Go.Ab
end

section
/-
  A loop over a map, from its iterator's making to its end; a body with such loops.
-/
namespace Go.Ab
section
variable {C : Cx} {N : Nat → Nat → Prop} {z z0 z1 z2 z3 : Z} {w w0 w1 : World}

theorem zip_fst {α β : Type} : ∀ {as : List α} {bs : List β}, as.length = bs.length → (as.zip bs).map (·.1) = as
  | [], [], _ => rfl
  | [], _ :: _, h => by simp at h
  | _ :: _, [], h => by simp at h
  | a :: as, b :: bs, hl => by simp [zip_fst (show as.length = bs.length by simpa using hl)]
theorem rest_all {kvs : List (AV × AV)} {es : List MapEntry} (h : kvs.length = es.length) : restOf (kvs.zip es) #[] = kvs := by
  unfold restOf
  rw [List.filter_eq_self.2 (fun p _ => by simp), zip_fst h]

theorem rng_sound (hC : C.OK) {R' : Run} (hR : RunF C R') (hY : RunY C R') (hD : RunD C R') {ow : Ow} {lo nt n : Nat} {c1 c2 : Code} {ac : ACode} (htr : trRng C.P C.G ow C.md nt c1 c2 = some ac)
    {s s' : St} {e : Ex} (h : exec C.ft R' n ac s = some (e, s')) {a : Act} (hI : CInv C N lo nt z w s a) {F : Fence} {k : Nat} (hF : WideF F) (hro : ∀ l, F.round = some l → ∃ L, z.h[l]? = some (Obj.loop L)) {Q : Exit → Act → World → Prop}
    (hQ : ∀ ex a' w', ExM e ex → Post C N lo nt z w s' a' w' → Q ex a' w') : (Code.seq c1 c2).wpIn F k C.P Q a w := by
  unfold trRng at htr
  split at htr
  · rename_i id0 ops0 B id1 ops1 c B' Cc id2 ops2 tail
    split at htr
    · rename_i it T x ty0 p0 f0 nx it1 ty1 p1 f1 ok nx1 ty2 p2 f2 en it3 ty3 p3 f3 opost hl0 hl1 hl2
      split at htr
      · rename_i hc
        obtain ⟨⟨rfl, rfl, rfl, rfl, rfl⟩, ⟨hit, hnx, hok, hen⟩, ⟨d1, d2, d3, d4⟩, hT⟩ := hc
        simp only [bind, Option.bind_eq_some_iff, pure, Option.some.injEq] at htr
        obtain ⟨sx, h1, pre, h2, post, h3, atail, h4, rfl⟩ := htr
        simp only [exec] at h
        obtain ⟨s0, g1, h⟩ := Option.bind_eq_some_iff.1 h
        obtain ⟨tk, te, hu⟩ : ∃ tk te, C.P.underlying T = some (.map tk te) := by
          unfold mapT at hT
          split at hT
          · exact ⟨_, _, by assumption⟩
          · cases hT
        have hops0 : ops0.toList = ops0.toList.dropLast ++ [⟨some it3, .range T x, ty0, p0, f0, none⟩] := by
          obtain ⟨ys, hy⟩ := List.getLast?_eq_some_iff.1 hl0
          rw [hy, List.dropLast_concat]
        refine wpIn_seq (wpIn_region_list ?_)
        rw [hops0]
        refine region_listK hC hR hY hF _ ops0.toList.dropLast pre z w s s0 a (by rw [hI.size]; exact h2) g1 hI.good hI.heap hI.mem hI.env fun a1 w1 hst => ?_
        obtain ⟨z1, q1, q2, q3, q4, q5, q6, q7, q8⟩ := hst
        have hI1 : CInv C N lo nt z1 w1 s0 a1 := ⟨q1, q3, q4, q5, q6.trans hI.size, Nat.le_trans hI.los q2.size, by rw [q7]; exact hI.marks.step hI.good q2⟩
        have hro1 : ∀ l, F.round = some l → ∃ L, z1.h[l]? = some (Obj.loop L) := fun l hl => let ⟨L, hL⟩ := hro l hl; q2.loops l L hL
        have hxv := trX_sound q1 q5 h1
        split at h
        · rename_i mid hx
          rw [hx] at hxv
          obtain ⟨hmid, hxe⟩ := R_mp.1 hxv
          split at h
          · rename_i kvs ek hb
            rw [allSame_eq] at h
            rw [← q4] at hb h
            obtain ⟨es, clock, hobj, es', hpm, _, hmp⟩ := q1.mp mid kvs ek hb
            have hsz : z1.h.size = w1.heap.size := by rw [q3]
            refine op_value hF rfl (fun _ => by simp) (v := .pointer (some ⟨w1.heap.size, 0, none⟩)) (w' := w1.alloc (.mapIter (some (z1.ρ mid)) clock #[] clock)) ?_ ?_
            · show (vN (Instr.range T (a1.eval x))).run C.P w1 = _
              rw [hxe]
              exact vN_ok (run_range_map w1 T tk te (z1.ρ mid) es clock hu (by rw [← q3]; exact hobj))
            let o : Obj := .mapIter (some (z1.ρ mid)) clock #[] clock
            let zK : Z := z1.wm (z1.m.kill mid)
            have hTK : Tr C.P N z1 zK := less_tr (kill_less z1.m mid)
            have hGK : Good C N zK := less_good (kill_less z1.m mid) q1
            have hlen : zK.m.blks.length = z1.m.blks.length := (kill_less z1.m mid).len
            let zI : Z := zK.grow o .dead
            have hTI : Tr C.P N zK zI := grow_tr hGK o .dead
            have hGI : Good C N zI := grow_good hGK (fun _ _ h => by cases h) (fun _ _ _ _ _ _ h => by cases h) (fun _ _ h => by cases h)
            have hrho : zI.ρ z1.m.blks.length = z1.h.size := by
              show (if _ = zK.m.blks.length then zK.h.size else _) = _
              rw [if_pos hlen.symm]; rfl
            have hlt : z1.m.blks.length < zI.m.blks.length := by
              show _ < ((zK.m.blks ++ [Blk.dead]) : List Blk).length
              rw [List.length_append, hlen]; simp
            have hRI : RgI C N lo nt z1 w1 mid clock zI (w1.alloc o) (s0.rngIn mid it3 nx1 c en) (a1.put (some it3) (.pointer (some ⟨w1.heap.size, 0, none⟩))) #[] clock := by
              refine ⟨⟨hGI, ?_, ?_, ?_, (put_size _ _ _).trans hI1.size, Nat.le_trans hI1.los (hTK.trans hTI).size, by rw [put_defers]; exact (hI1.marks.step q1 hTK).step hGK hTI⟩, hTI, ?_, Nat.le_refl _, hlt, hrho, ⟨rfl, rfl, rfl⟩⟩
              · show z1.h.push o = w1.heap.push o
                rw [q3]
              · show (⟨zK.m.blks ++ [Blk.dead], _⟩ : Mem) = ⟨_, _⟩
                rw [← q4]; rfl
              · intro t
                show R C.P N zI (if t = it3 then AV.itr s0.mem.blks.length else if [nx1, c, en].contains t = true then .undef else s0.env t) _
                by_cases ht : t = it3
                · subst ht
                  rw [if_pos rfl, ← q4]
                  refine R_itr.2 ⟨hlt, ?_⟩
                  rw [hrho, hsz]
                  exact eval_put (by rw [hI1.size]; exact hit) _
                · rw [if_neg ht]
                  split
                  · exact R_undef _
                  · have := eval_ne (a := a1) ht (.pointer (some ⟨w1.heap.size, 0, none⟩))
                    have h9 := R_step (hTK.trans hTI) (q5 t)
                    exact (show Array.getD _ t undef = a1.tmps.getD t undef from this) ▸ h9
              · show (z1.h.push o)[z1.h.size]? = _
                simp [o]
            refine wpIn_block (wpIn_loop_rounds ((leftOf es #[]).size + 1) ?_)
            refine rounds_sound (n := n) (fg := it3 :: nx1 :: c :: en :: ow.fg) hC hR hY hD hF hro1 q1 hb hobj hpm hmp hl1 hl2 h3 h4 hnx hok hen d1 d2 (by simp) (by simp) (fun ex a' w' hex hp => hQ ex a' w' hex (hp.trans q2 q8)) _ #[] clock zI _ _ _ (Nat.lt_succ_self _) hRI fun π hπ => ?_
            rw [rest_all hmp.1.1] at hπ
            exact h π hπ
          · cases h
        · rename_i hx
          rw [hx] at hxv
          have hxe := R_nilm.1 hxv
          simp only [Option.some.injEq, Prod.mk.injEq] at h
          obtain ⟨rfl, rfl⟩ := h
          have hsz1 : a1.tmps.size = nt := hI1.size
          refine op_value hF rfl (fun _ => by simp) (v := .pointer (some ⟨w1.heap.size, 0, none⟩)) (w' := w1.alloc (.mapIter none 0 #[] 0)) ?_ ?_
          · show (vN (Instr.range T (a1.eval x))).run C.P w1 = _
            rw [hxe]
            exact vN_ok (run_range_nilMap w1 T tk te hu)
          refine wpIn_block (wpIn_loop_rounds 1 ?_)
          rw [roundsIn_succ]
          refine wpIn_seq (wpIn_region_list ?_)
          rw [hl1]
          refine op_value hF rfl (fun _ => by simp) (v := .tuple #[.bool false]) (w' := w1.alloc (.mapIter none 0 #[] 0)) ?_ ?_
          · show (vN (Instr.next ((a1.put (some it3) (.pointer (some ⟨w1.heap.size, 0, none⟩))).eval (.tmp it3)) false ty1)).run C.P _ = _
            rw [eval_put (by rw [hsz1]; exact hit)]
            exact vN_ok (run_next_nilMap w1 ty1 0 0 #[])
          refine op_value hF rfl (fun _ => by simp) (v := .bool false) (w' := w1.alloc (.mapIter none 0 #[] 0)) ?_ ?_
          · show (vN (Instr.extract (((a1.put (some it3) (.pointer (some ⟨w1.heap.size, 0, none⟩))).put (some nx1) (.tuple #[.bool false])).eval (.tmp nx1)) 0)).run C.P _ = _
            rw [eval_put (by rw [put_size, hsz1]; exact hnx)]
            exact vN_ok rfl
          refine wpIn_seq (wpIn_cond_false (eval_put (by rw [put_size, put_size, hsz1]; exact hok) _) (wpIn_exit ?_))
          show if B' = B' then Q .normal _ _ else Q (.exit B') _ _
          rw [if_pos rfl]
          refine hQ _ _ _ rfl ?_
          have hTp := tr_push (C := C) (N := N) z1 (.mapIter none 0 #[] 0) q1
          have hJ : CInv C N lo nt { z1 with h := z1.h.push (.mapIter none 0 #[] 0) } (w1.alloc (.mapIter none 0 #[] 0)) s0 a1 :=
            ⟨good_push _ q1, by show z1.h.push _ = w1.heap.push _; rw [q3], q4, fun t => R_step hTp (q5 t), hI1.size, Nat.le_trans hI1.los hTp.size, hI1.marks.step q1 hTp⟩
          have hJ2 := ((hJ.put hit (R_undef (.pointer (some ⟨w1.heap.size, 0, none⟩)))).put hnx (R_undef (.tuple #[.bool false]))).put hok (R_undef (.bool false))
          refine ⟨_, q2.trans hTp, q8.trans ⟨rfl, rfl, rfl⟩, hJ2.good, hJ2.heap, q4, fun t => ?_, hJ2.size, hJ2.los, hJ2.marks⟩
          have h9 := hJ2.env t
          show R C.P N _ (if [it3, nx1, c, en].contains t = true then .undef else s0.env t) _
          split
          · exact R_undef _
          · rename_i hno
            simp only [List.contains_cons, List.contains_nil, Bool.or_false, Bool.or_eq_true, beq_iff_eq, not_or] at hno
            have e1 : (((s0.put (some it3) .undef).put (some nx1) .undef).put (some c) .undef).env t = s0.env t := by
              simp only [St.put, upd]
              rw [if_neg hno.2.2.1, if_neg hno.2.1, if_neg hno.1]
            rw [e1] at h9
            exact h9
        · cases h
      · cases htr
    · cases htr
  · cases htr

theorem R_slice {v : AV} {xv : Value} (h : R C.P N z v xv) : (∀ tk, v = .sl [] tk → ∃ a c, xv = .slice a 0 c) ∧ (∀ e es tk, v = .sl (e :: es) tk → ∃ a l c, xv = .slice (some a) l c) ∧ (∀ id off len, v = .ref id off len → (lsz z.m id).isSome = true → ∃ a l c, xv = .slice (some a) l c) := by
  refine ⟨fun tk hv => ?_, fun e es tk hv => ?_, fun id off len hv hl => ?_⟩
  · subst hv; obtain ⟨a, c, st, h1, _⟩ := R_sl.1 h; exact ⟨a, c, h1⟩
  · subst hv
    obtain ⟨a, c, st, h1, _, _, _, _, h5, _⟩ := R_sl.1 h
    obtain ⟨b, o, ha, _⟩ := h5 0 e rfl
    exact ⟨_, _, _, by rw [h1, ha]⟩
  · subst hv
    obtain ⟨es, n, hb⟩ := lsz_isSome hl
    obtain ⟨_, _, h3⟩ := R_ref.1 h
    obtain ⟨cap, h4, _⟩ := h3 es n hb
    exact ⟨_, _, _, h4⟩
theorem forget_inv {lo nt : Nat} {s : St} {a : Act} (h : CInv C N lo nt z w s a) (fg : List Nat) : CInv C N lo nt z w (s.forget fg) a :=
  ⟨h.good, h.heap, h.mem, fun t => by
    show R C.P N z (if fg.contains t = true then .undef else s.env t) _
    split
    · exact R_undef _
    · exact h.env t, h.size, h.los, h.marks⟩
theorem equalIn_sl_nil {P : Program} (w : World) (d : Nat) {t e : TypeId} (a : Option Addr) (n c : Nat) (h : P.underlying t = some (.slice e)) : (Op.equalIn (d + 1) t (.slice a n c) (.slice none 0 0)).run P w = .ok a.isNone w := by
  cases a <;> simp [Op.equalIn, run_underlying h]
theorem run_eql_nil {P : Program} (w : World) (t e : TypeId) (a : Option Addr) (n c : Nat) (h : P.underlying t = some (.slice e)) : (Go.binOp .eql t (.slice a n c) (.slice none 0 0)).run P w = .ok (.bool a.isNone) w := by
  simp only [Go.binOp]
  simp [Op.equal, Op.maxDepth, equalIn_sl_nil w 9999 a n c h]

/-- The question whether a slice is nil. -/
theorem nilq_sound (hC : C.OK) {R' : Run} (hR : RunF C R') (hY : RunY C R') (hD : RunD C R') {ow : Ow} {lo nt n : Nat} {c1 c2 : Code} {ac : ACode} (htr : trNil C.P C.G ow C.md nt c1 c2 = some ac)
    {s s' : St} {e : Ex} (h : exec C.ft R' n ac s = some (e, s')) {a : Act} (hI : CInv C N lo nt z w s a) {F : Fence} {k : Nat} (hF : WideF F) (hro : ∀ l, F.round = some l → ∃ L, z.h[l]? = some (Obj.loop L)) {Q : Exit → Act → World → Prop}
    (hQ : ∀ ex a' w', ExM e ex → Post C N lo nt z w s' a' w' → Q ex a' w') : (Code.seq c1 c2).wpIn F k C.P Q a w := by
  unfold trNil at htr
  split at htr
  · rename_i id0 ops b
    split at htr
    · rename_i t T x xt ty0 p0 f0 hl0
      split at htr
      · rename_i el hu
        split at htr
        · rename_i hlt
          simp only [bind, Option.bind_eq_some_iff, pure, Option.some.injEq] at htr
          obtain ⟨pre, h2, sx, h1, ab, h3, aa, h4, rfl⟩ := htr
          simp only [exec] at h
          obtain ⟨s0, g1, h⟩ := Option.bind_eq_some_iff.1 h
          have hops0 : ops.toList = ops.toList.dropLast ++ [⟨some t, .binOp .eql T x (.const (.slice none 0 0)) xt, ty0, p0, f0, none⟩] := by
            obtain ⟨ys, hy⟩ := List.getLast?_eq_some_iff.1 hl0
            rw [hy, List.dropLast_concat]
          refine wpIn_seq (wpIn_seq (wpIn_region_list ?_))
          rw [hops0]
          refine region_listK hC hR hY hF _ ops.toList.dropLast pre z w s s0 a (by rw [hI.size]; exact h2) g1 hI.good hI.heap hI.mem hI.env fun a1 w1 hst => ?_
          obtain ⟨z1, q1, q2, q3, q4, q5, q6, q7, q8⟩ := hst
          have hI1 : CInv C N lo nt z1 w1 s0 a1 := ⟨q1, q3, q4, q5, q6.trans hI.size, Nat.le_trans hI.los q2.size, by rw [q7]; exact hI.marks.step hI.good q2⟩
          have hro1 : ∀ l, F.round = some l → ∃ L, z1.h[l]? = some (Obj.loop L) := fun l hl => let ⟨L, hL⟩ := hro l hl; q2.loops l L hL
          have hxv := trX_sound q1 q5 h1
          have key : ∃ (ad : Option Addr) (l cp : Nat), a1.eval x = .slice ad l cp ∧ (exec C.ft R' n (.seq ab aa) (s0.put (some t) (.bool ad.isNone))).map (fun p => (p.1, p.2.forget ow.fg)) = some (e, s') := by
            obtain ⟨k1, k2, k3⟩ := R_slice hxv
            split at h
            · rename_i tk hx
              obtain ⟨ad, cp, hv⟩ := k1 _ hx
              obtain ⟨e1, e2⟩ := both_eq.1 h
              refine ⟨ad, _, cp, hv, ?_⟩
              cases ad
              · exact e1
              · exact e2
            · rename_i y ys tk hx
              obtain ⟨ad, l, cp, hv⟩ := k2 _ _ _ hx
              exact ⟨some ad, l, cp, hv, h⟩
            · rename_i id off len hx
              split at h
              · rename_i hl
                obtain ⟨ad, l, cp, hv⟩ := k3 _ _ _ hx (by rw [q4]; exact hl)
                exact ⟨some ad, l, cp, hv, h⟩
              · cases h
            · cases h
          obtain ⟨ad, l, cp, hv, h⟩ := key
          refine op_value hF rfl (fun _ => by simp) (v := .bool ad.isNone) (w' := w1) ?_ ?_
          · show (vN (do eqGuard .eql T x (.const (.slice none 0 0)) (a1.eval x) (a1.eval (.const (.slice none 0 0))); Go.binOp .eql T (a1.eval x) (a1.eval (.const (.slice none 0 0))))).run C.P w1 = _
            rw [hv]
            refine vN_ok ?_
            show (do eqGuard .eql T x (.const (.slice none 0 0)) (.slice ad l cp) (.slice none 0 0); Go.binOp .eql T (.slice ad l cp) (.slice none 0 0) : Sem Value).run C.P w1 = _
            have hgd : (eqGuard .eql T x (.const (.slice none 0 0)) (.slice ad l cp) (.slice none 0 0)).run C.P w1 = .ok () w1 := by simp [eqGuard]
            rw [Sem.run_bind, hgd]
            exact run_eql_nil w1 T el ad l cp hu
          obtain ⟨⟨e1, s1⟩, h5, h6⟩ := Option.map_eq_some_iff.1 h
          simp only [Prod.mk.injEq] at h6
          obtain ⟨rfl, rfl⟩ := h6
          have hI2 := hI1.put (av := .bool ad.isNone) (v := .bool ad.isNone) hlt (R_bool.2 rfl)
          have hfin : ∀ ex a' w', ExM e1 ex → Post C N lo nt z1 w1 s1 a' w' → Q ex a' w' := fun ex a' w' hex hp => by
            obtain ⟨z', p1, p2, p3⟩ := hp
            exact hQ ex a' w' hex ⟨z', q2.trans p1, q8.trans p2, forget_inv p3 _⟩
          simp only [exec] at h5
          split at h5
          · rename_i s2 h7
            refine code_sound hC hR hY hD b h3 h7 hI2 hF hro1 fun ex a2 w2 hex hp => ?_
            obtain rfl : ex = .normal := hex
            obtain ⟨z2, p1, p2, p3⟩ := hp
            exact code_sound hC hR hY hD c2 h4 h5 p3 hF (fun l hl => let ⟨L, hL⟩ := hro1 l hl; p1.loops l L hL) fun ex a3 w3 hex hp => hfin _ _ _ hex (hp.trans p1 p2)
          · rename_i hno
            refine code_sound hC hR hY hD b h3 h5 hI2 hF hro1 fun ex a2 w2 hex hp => ?_
            cases e1 with
            | nxt => exact absurd h5 (hno s1)
            | out id => obtain rfl : ex = .exit id := hex; exact hfin _ _ _ rfl hp
            | ret => obtain rfl : ex = .ret := hex; exact hfin _ _ _ rfl hp
        · cases htr
      · cases htr
    · cases htr
  · cases htr

/-- A body with loops over maps. -/
theorem top_sound (hC : C.OK) {R' : Run} (hR : RunF C R') (hY : RunY C R') (hD : RunD C R') {ow : Ow} {nt n : Nat} : ∀ (c : Code) {ac : ACode}, trTop C.P C.G ow C.md nt c = some ac → ∀ {lo : Nat} {z : Z} {w : World} {s s' : St} {e : Ex} {a : Act},
    exec C.ft R' n ac s = some (e, s') → CInv C N lo nt z w s a → ∀ {F : Fence} {k : Nat}, WideF F → (∀ l, F.round = some l → ∃ L, z.h[l]? = some (Obj.loop L)) → ∀ {Q : Exit → Act → World → Prop},
    (∀ ex a' w', ExM e ex → Post C N lo nt z w s' a' w' → Q ex a' w') → c.wpIn F k C.P Q a w
  | .seq x y, ac, htr, lo, z, w, s, s', e, a, h, hI, F, k, hF, hro, Q, hQ => by
    simp only [trTop] at htr
    split at htr
    · rename_i hr
      cases htr
      exact rng_sound hC hR hY hD hr h hI hF hro hQ
    · rename_i hr
      cases htr
      exact nilq_sound hC hR hY hD hr h hI hF hro hQ
    · simp only [Option.bind_eq_some_iff, Option.map_eq_some_iff] at htr
      obtain ⟨ax, h1, ay, h2, rfl⟩ := htr
      refine wpIn_seq ?_
      simp only [exec] at h
      split at h
      · rename_i s1 h3
        refine top_sound hC hR hY hD x h1 h3 hI hF hro fun ex a1 w1 hex hp => ?_
        obtain rfl : ex = .normal := hex
        obtain ⟨z1, g1, g2, g3⟩ := hp
        refine top_sound hC hR hY hD y h2 h g3 hF (fun l hl => let ⟨L, hL⟩ := hro l hl; g1.loops l L hL) fun ex a2 w2 hex hp => hQ _ _ _ hex (hp.trans g1 g2)
      · rename_i hno
        refine top_sound hC hR hY hD x h1 h hI hF hro fun ex a1 w1 hex hp => ?_
        cases e with
        | nxt => exact absurd h (hno s')
        | out id => obtain rfl : ex = .exit id := hex; exact hQ _ _ _ rfl hp
        | ret => obtain rfl : ex = .ret := hex; exact hQ _ _ _ rfl hp
  | .skip, ac, htr, lo, z, w, s, s', e, a, h, hI, F, k, hF, hro, Q, hQ => code_sound hC hR hY hD _ htr h hI hF hro hQ
  | .exit id, ac, htr, lo, z, w, s, s', e, a, h, hI, F, k, hF, hro, Q, hQ => code_sound hC hR hY hD _ htr h hI hF hro hQ
  | .ret, ac, htr, lo, z, w, s, s', e, a, h, hI, F, k, hF, hro, Q, hQ => code_sound hC hR hY hD _ htr h hI hF hro hQ
  | .region id ops draw, ac, htr, lo, z, w, s, s', e, a, h, hI, F, k, hF, hro, Q, hQ => code_sound hC hR hY hD _ htr h hI hF hro hQ
  | .cond c x y, ac, htr, lo, z, w, s, s', e, a, h, hI, F, k, hF, hro, Q, hQ => code_sound hC hR hY hD _ htr h hI hF hro hQ
  | .block id b, ac, htr, lo, z, w, s, s', e, a, h, hI, F, k, hF, hro, Q, hQ => code_sound hC hR hY hD _ htr h hI hF hro hQ
  | .loop b, ac, htr, lo, z, w, s, s', e, a, h, hI, F, k, hF, hro, Q, hQ => code_sound hC hR hY hD _ htr h hI hF hro hQ
  | .rangeFunc g ps assign body, ac, htr, lo, z, w, s, s', e, a, h, hI, F, k, hF, hro, Q, hQ => code_sound hC hR hY hD _ htr h hI hF hro hQ
  | .scope b, ac, htr, lo, z, w, s, s', e, a, h, hI, F, k, hF, hro, Q, hQ => code_sound hC hR hY hD _ htr h hI hF hro hQ
  | .label l, ac, htr, lo, z, w, s, s', e, a, h, hI, F, k, hF, hro, Q, hQ => code_sound hC hR hY hD _ htr h hI hF hro hQ
  | .goto l, ac, htr, _, _, _, _, _, _, _, _, _, _, _, _, _, _, _ => by simp [trTop, tr] at htr
  | .refuse y, ac, htr, _, _, _, _, _, _, _, _, _, _, _, _, _, _, _ => by simp [trTop, tr] at htr
end
end Go.Ab
end

section
/-
  Functions: their results, their deferred blocks; the run of the abstract machine is the program's.
-/
namespace Go.Ab
section
variable {C : Cx} {N : Nat → Nat → Prop} {z z0 z1 z2 : Z} {w : World}

def resVar (tmps : Array Value) : ResultVar → Sem Value
  | .tmp t => pure (tmps.getD t undef)
  | .cell a t => do loadVar t (← asAddr (tmps.getD a undef))
theorem results_eq (fn : Func) (tmps : Array Value) : results fn tmps = (do let vs ← fn.results.mapM (resVar tmps); pure (if h : vs.size = 1 then vs[0] else .tuple vs)) := by
  unfold results
  congr 1

theorem res_one (hG : Good C N z) (hh : z.h = w.heap) {s : St} (hm : z.m = s.mem) {a : Act} (he : EnvOK C N z s.env a) {rv : ResultVar} {r : Res} (htr : trRes C.P rv = some r) {v : AV} (h : resOne s r = some v) :
    ∃ v', (resVar a.tmps rv).run C.P w = .ok v' w ∧ R C.P N z v v' := by
  cases rv with
  | tmp t =>
    simp only [trRes, Option.some.injEq] at htr
    subst htr
    simp only [resOne, Option.some.injEq] at h
    subst h
    exact ⟨_, rfl, he t⟩
  | cell b t =>
    simp only [trRes, bind, Option.bind_eq_some_iff, pure, Option.some.injEq] at htr
    obtain ⟨sz, h1, rfl⟩ := htr
    simp only [resOne] at h
    rw [← hm] at h
    obtain ⟨v', h2, h3⟩ := load_sound (w := w) hG hh h1 (he b) h
    refine ⟨v', ?_, h3⟩
    obtain ⟨A, hA⟩ : ∃ A, a.tmps.getD b undef = .pointer (some A) := by
      have hb := he b
      unfold loadAt at h
      split at h
      · rename_i id ix off hp
        rw [hp] at hb
        split at h
        · rename_i es n hbk
          exact ⟨_, (R_ptr.1 hb).2.2 es n hbk⟩
        · cases h
      · rename_i e off hp
        rw [hp] at hb
        obtain ⟨b', o, h4, _⟩ := R_pv.1 hb
        exact ⟨_, h4⟩
      · cases h
    rw [hA] at h2
    simp only [resVar, hA]
    exact h2
theorem resAll_get {s : St} : ∀ {rs : List Res} {vs : List AV}, resAll s rs = some vs → vs.length = rs.length ∧ ∀ (i : Nat) r v, rs[i]? = some r → vs[i]? = some v → resOne s r = some v
  | [], vs, h => by simp only [resAll, Option.some.injEq] at h; subst h; exact ⟨rfl, fun i r v h => by simp at h⟩
  | r :: rs, vs, h => by
    simp only [resAll, Option.bind_eq_some_iff, Option.map_eq_some_iff] at h
    obtain ⟨v, h1, vs', h2, rfl⟩ := h
    obtain ⟨h3, h4⟩ := resAll_get h2
    refine ⟨by simp [h3], fun i r' v' h5 h6 => ?_⟩
    cases i with
    | zero => simp at h5 h6; subst h5; subst h6; exact h1
    | succ i => exact h4 i r' v' (by simpa using h5) (by simpa using h6)

theorem results_sound (hG : Good C N z) (hh : z.h = w.heap) {s : St} (hm : z.m = s.mem) {a : Act} (he : EnvOK C N z s.env a) {fn : Func} {rs : List Res} (htr : fn.results.toList.mapM (trRes C.P) = some rs) {v : AV} (h : resOf s rs = some v) :
    ∃ v', (results fn a.tmps).run C.P w = .ok v' w ∧ R C.P N z v v' := by
  simp only [resOf, Option.map_eq_some_iff] at h
  obtain ⟨avs, h1, h2⟩ := h
  obtain ⟨h3, h4⟩ := resAll_get h1
  obtain ⟨h5, h6⟩ := mapM_RL' (S := fun r rv => trRes C.P rv = some r) (fun _ _ h => h) htr
  let f : ResultVar → Value := fun rv => match (resVar a.tmps rv).run C.P w with | .ok v _ => v | _ => undef
  have one : ∀ (i : Nat) rv av, fn.results[i]? = some rv → avs[i]? = some av → (resVar a.tmps rv).run C.P w = .ok (f rv) w ∧ R C.P N z av (f rv) := by
    intro i rv av h7 h8
    obtain ⟨r, hr⟩ : ∃ r, rs[i]? = some r := ⟨_, List.getElem?_eq_getElem (by have := (List.getElem?_eq_some_iff.1 h8).1; omega)⟩
    obtain ⟨v', g1, g2⟩ := res_one (w := w) hG hh hm he (h6 i r rv hr (by rw [Array.getElem?_toList]; exact h7)) (h4 i r av hr h8)
    have : f rv = v' := by show (match (resVar a.tmps rv).run C.P w with | .ok v _ => v | _ => undef) = v'; rw [g1]
    rw [this]; exact ⟨g1, g2⟩
  have hsz : avs.length = fn.results.size := by rw [h3, h5]; simp
  have hrun : (fn.results.mapM (resVar a.tmps)).run C.P w = .ok (fn.results.map f) w := run_arrayMapM _ f _ fun rv hrv => by
    obtain ⟨i, hi, rfl⟩ := Array.mem_iff_getElem.1 hrv
    exact (one i _ _ (Array.getElem?_eq_getElem hi) (List.getElem?_eq_getElem (by omega))).1
  have hRL : RL (R C.P N z) avs (fn.results.map f).toList := by
    refine ⟨by simp [hsz], fun i av u h7 h8 => ?_⟩
    rw [Array.toList_map, List.getElem?_map, Option.map_eq_some_iff] at h8
    obtain ⟨rv, h9, rfl⟩ := h8
    exact (one i rv av (by rw [← Array.getElem?_toList]; exact h9) h7).2
  rw [results_eq]
  simp only [Sem.run_bind, hrun, Result.andThen_ok, Sem.run_pure]
  refine ⟨_, rfl, ?_⟩
  match avs, h2, hsz, hRL with
  | [x], h2, hsz, hRL =>
    simp only at h2; subst h2
    have h1 : (fn.results.map f).size = 1 := by simp at hsz ⊢; omega
    rw [dif_pos h1]
    exact hRL.2 0 x _ rfl (by rw [Array.getElem?_toList, Array.getElem?_eq_getElem (by omega)])
  | [], h2, hsz, hRL =>
    simp only at h2; subst h2
    have h1 : ¬(fn.results.map f).size = 1 := by simp at hsz ⊢; omega
    rw [dif_neg h1]
    exact R_tup.2 ⟨_, rfl, hRL⟩
  | x :: y :: r, h2, hsz, hRL =>
    simp only at h2; subst h2
    have h1 : ¬(fn.results.map f).size = 1 := by simp at hsz ⊢; omega
    rw [dif_neg h1]
    exact R_tup.2 ⟨_, rfl, hRL⟩

/-- A function leaves. -/
theorem leaves_sound {F : Fence} {k lo nt : Nat} {fn : Func} {rs : List Res} (htr : fn.results.toList.mapM (trRes C.P) = some rs) {v : AV} {s : St} (h : resOf s rs = some v) {a : Act} {w0 w' : World} (hT : Tr C.P N z0 z) (hlo : z0.h.size = lo) (hI : CInv C N lo nt z w' s a) (hw : WS w0 w') :
    ∀ (ms : List Nat) (w2 : World), SameC z.h w2.heap → (∀ b : Nat, b < lo → w2.heap[b]? = z.h[b]?) → ms.Nodup → (∀ r ∈ ms, lo ≤ r ∧ w2.heap[r]? = some (.deferred (some []))) → WS w' w2 →
      LeavesInM F k C.P fn a.tmps (CallOK C N z0 s.mem v w0) (ms.map markOf) .returning w2
  | [], w2, hs, hl, _, _, hw2 => by
    have hG2 := same_good hs hI.good
    have hm2 : ({ z with h := w2.heap } : Z).m = s.mem := hI.mem
    obtain ⟨v', h1, h2⟩ := results_sound (z := { z with h := w2.heap }) (w := w2) hG2 rfl hm2 (fun t => same_R hs (hI.env t)) htr h
    exact ⟨v', h1, { z with h := w2.heap }, h2, hG2, same_tr hs hT (by rw [hlo]; exact hl), rfl, hI.mem, hw.trans hw2⟩
  | r :: ms, w2, hs, hl, hnd, hms, hw2 => by
    obtain ⟨h1, h2⟩ := hms r (by simp)
    have hnd := List.nodup_cons.1 hnd
    have hlt := (Array.getElem?_eq_some_iff.1 h2).1
    refine ⟨by simp, .inl ⟨r, _, rfl, run_takeDeferred h2, ?_⟩⟩
    refine leaves_sound htr h hT hlo hI hw ms (w2.putObj r (.deferred none)) (hs.trans ⟨by simp, fun b => ?_⟩) (fun b hb => ?_) hnd.2 (fun r' hr' => ⟨(hms r' (by simp [hr'])).1, ?_⟩) (hw2.trans ⟨rfl, rfl, rfl⟩)
    · by_cases hb : b = r
      · subst hb
        exact .inr ⟨⟨_, h2, rfl⟩, ⟨_, World.putObj_heap_same hlt, rfl⟩⟩
      · exact .inl (World.putObj_heap_other hb)
    · rw [World.putObj_heap_other (by omega)]; exact hl b hb
    · rw [World.putObj_heap_other (by rintro rfl; exact hnd.1 hr')]; exact (hms r' (by simp [hr'])).2

theorem entry_env {args : List AV} {us : Array Value} (hr : RL (R C.P N z) args us.toList) (n : Nat) (m : Mem) : EnvOK C N z (entry args) { tmps := us ++ Array.replicate n undef, defers := [] } := by
  intro t
  have hl : args.length = us.size := by have := hr.1; simpa using this
  unfold entry
  by_cases ht : t < args.length
  · rw [List.getElem?_eq_getElem ht, Option.getD_some]
    have : (us ++ Array.replicate n undef).getD t undef = us[t]'(by omega) := by
      rw [Array.getD_eq_getD_getElem?, Array.getElem?_append_left (show t < us.size by omega), Array.getElem?_eq_getElem (show t < us.size by omega)]; rfl
    rw [this]
    exact hr.2 t _ _ (List.getElem?_eq_getElem ht) (by rw [Array.getElem?_toList, Array.getElem?_eq_getElem (by omega)])
  · rw [List.getElem?_eq_none (by omega)]
    exact R_undef _

theorem run_D (n : Nat) : RunD C (run C.ft n) := by
  intro f args m p h
  cases n with
  | zero => cases h
  | succ n =>
    simp only [run] at h
    split at h
    · exact ⟨_, by assumption⟩
    · cases h

theorem runF_step (hC : C.OK) {n : Nat} (hR : RunF C (run C.ft n)) (hY : RunY C (run C.ft n)) : RunF C (run C.ft (n + 1)) := by
  intro f args m v m' h N z w us hG hh hm hr F k hF
  simp only [run] at h
  split at h
  · rename_i fn hfn
    split at h
    · rename_i hlen
      simp only [Option.bind_eq_some_iff] at h
      obtain ⟨⟨e, s'⟩, h1, h2⟩ := h
      have htr := hC.fns f fn hfn
      simp only [trFn, bind, Option.bind_eq_some_iff] at htr
      obtain ⟨fd, h3, c, h4, htr⟩ := htr
      split at htr
      · cases htr
      · rename_i hnt
        simp only [Option.bind_eq_some_iff, pure, Option.some.injEq] at htr
        obtain ⟨ac, h5, rs, h6, rfl⟩ := htr
        simp only at h1 h2 hlen
        have hus : us.size = args.length := by have := hr.1; simpa using this.symm
        have hI : CInv C N z.h.size fd.ntmps z w ⟨entry args, m⟩ { tmps := us ++ Array.replicate (fd.ntmps - us.size) undef, defers := [] } :=
          ⟨hG, hh, hm, entry_env hr _ m, by simp; omega, Nat.le_refl _, MarksOK.nil _ _⟩
        have hro : ({ F with round := none } : Fence).round = none := rfl
        have main : CallsIn { F with round := none } k C.P f us w (CallOK C N z m' v w) := by
          refine callsIn_of_wp_marks h3 h4 (hF.fn f) ?_ rfl
          refine top_sound (F := { F with round := none }) hC hR hY (run_D n) c h5 h1 hI ⟨hF.fn, hF.depth⟩ (fun l hl => by cases hl) fun ex a' w' hex hp => ?_
          obtain ⟨z', g1, g2, g3⟩ := hp
          have fin : resOf s' rs = some v → m' = s'.mem → LeavesInM { F with round := none } k C.P fd a'.tmps (CallOK C N z m' v w) a'.defers .returning w' := by
            intro h7 h8
            subst h8
            obtain ⟨ms, q1, q2, q3⟩ := g3.marks
            rw [q1]
            refine leaves_sound h6 h7 g1 rfl g3 g2 ms w' (by rw [g3.heap]; exact SameC.refl _) (fun b _ => by rw [g3.heap]) q2 (fun r hr => by rw [← g3.heap]; exact q3 r hr) (WS.refl w')
          cases e with
          | out id => cases h2
          | nxt =>
            obtain rfl : ex = .normal := hex
            simp only [Ab.fin, Option.map_eq_some_iff] at h2
            obtain ⟨v1, h7, h8⟩ := h2
            cases h8
            exact fin h7 rfl
          | ret =>
            obtain rfl : ex = .ret := hex
            simp only [Ab.fin, Option.map_eq_some_iff] at h2
            obtain ⟨v1, h7, h8⟩ := h2
            cases h8
            exact fin h7 rfl
        exact main
    · cases h
  · cases h
end
end Go.Ab
end

section
/-
  Rounds; and the whole: a run of the abstract machine is a run of the program.
-/
namespace Go.Ab
section
variable {C : Cx} {N : Nat → Nat → Prop} {z z0 z1 z2 : Z} {w : World}

theorem puts_list : ∀ (ps : List Nat) (args : List AV) (us : List Value) (env : Nat → AV) (tmps : Array Value), RL (R C.P N z) args us → (∀ t ∈ ps, t < tmps.size) → (∀ t, R C.P N z (env t) (tmps.getD t undef)) → args.length = ps.length →
    ((ps.zip us).foldl (fun tmps p => tmps.setIfInBounds p.1 p.2) tmps).size = tmps.size ∧ ∀ t, R C.P N z (puts env ps args t) (((ps.zip us).foldl (fun tmps p => tmps.setIfInBounds p.1 p.2) tmps).getD t undef)
  | [], [], us, env, tmps, _, _, he, _ => by simpa [puts] using he
  | [], _ :: _, _, _, _, _, _, _, hl => by simp at hl
  | _ :: _, [], _, _, _, _, _, _, hl => by simp at hl
  | p :: ps, v :: args, [], _, _, hr, _, _, _ => by have := hr.1; simp at this
  | p :: ps, v :: args, u :: us, env, tmps, hr, hp, he, hl => by
    have h0 := hr.2 0 v u rfl rfl
    have hpl := hp p (by simp)
    obtain ⟨g1, g2⟩ := puts_list ps args us (upd env p v) (tmps.setIfInBounds p u) ⟨by have := hr.1; simpa using this, fun i a b h1 h2 => hr.2 (i + 1) a b (by simpa using h1) (by simpa using h2)⟩ (fun t ht => by simpa using hp t (by simp [ht])) (fun t => by
      by_cases ht : t = p
      · subst ht
        have : (tmps.setIfInBounds t u).getD t undef = u := by simp [Array.getD_eq_getD_getElem?, Array.getElem?_setIfInBounds_self_of_lt hpl]
        rw [this, upd_same]; exact h0
      · have : (tmps.setIfInBounds p u).getD t undef = tmps.getD t undef := by simp [Array.getD_eq_getD_getElem?, Array.getElem?_setIfInBounds_ne (Ne.symm ht)]
        rw [this]
        unfold upd
        rw [if_neg ht]; exact he t) (by simpa using hl)
    exact ⟨by simpa using g1, g2⟩

theorem runY_step (hC : C.OK) {n : Nat} (hR : RunF C (run C.ft n)) (hY : RunY C (run C.ft n)) : RunY C (run C.ft (n + 1)) := by
  intro id args m v m' h N z w us hG hh hm hr
  simp only [run] at h
  split at h
  · rename_i env ps asg body hb
    split at h
    · rename_i hlen
      rw [← hm] at hb
      obtain ⟨L, hL, p1, ⟨ow1, p2⟩, ⟨ow2, p3⟩, p4, p5, p6, p7, p8⟩ := lp_of hG hb
      have hid : id < z.m.blks.length := (List.getElem?_eq_some_iff.1 hb).1
      have hus : us.size = L.params.size := by
        have h1 := hr.1
        have h2 : L.params.toList.length = ps.length := by rw [p1]
        simp at h1 h2; omega
      refine ⟨L, hL, hus, fun F k hF => ?_⟩
      split at h
      · rename_i s1 hasg
        simp only [Option.bind_eq_some_iff] at h
        obtain ⟨s2, hbz, ⟨e, s3⟩, hbody, hfin⟩ := h
        have hzip : (L.params.zip us).foldl (fun tmps (p : Nat × Value) => tmps.setIfInBounds p.1 p.2) L.tmps = (ps.zip us.toList).foldl (fun tmps p => tmps.setIfInBounds p.1 p.2) L.tmps := by
          rw [← Array.foldl_toList, Array.toList_zip, p1]
        obtain ⟨q1, q2⟩ := puts_list ps args us.toList env L.tmps hr p7 p6 (by omega)
        rw [← hzip] at q1 q2
        have hFr : WideF (F.inRound (z.ρ id)) := ⟨hF.fn, hF.depth⟩
        have hI : CInv C N z.h.size L.tmps.size z w ⟨puts env ps args, m⟩ { tmps := (L.params.zip us).foldl (fun tmps (p : Nat × Value) => tmps.setIfInBounds p.1 p.2) L.tmps, defers := [] } :=
          ⟨hG, hh, hm, q2, q1, Nat.le_refl _, MarksOK.nil _ _⟩
        have hro : ∀ {z' : Z}, Tr C.P N z z' → ∀ l, (F.inRound (z.ρ id)).round = some l → ∃ L, z'.h[l]? = some (Obj.loop L) := by
          intro z' hT l hl
          cases hl
          exact hT.loops _ L hL
        refine roundIn_of_wpIn (hF.fn _) ?_
        refine code_sound hC hR hY (run_D n) L.assign p2 hasg hI hFr (hro (Tr.refl z)) fun ex a1 w1 hex hp => ?_
        obtain rfl : ex = .normal := hex
        obtain ⟨z1, g1, g2, g3⟩ := hp
        unfold busy at hbz
        split at hbz
        · rename_i env1 ps1 asg1 body1 hb1
          cases hbz
          rw [← g3.mem] at hb1
          obtain ⟨L1, hL1, r1, r2, r3, r4, r5, r6, r7, r8⟩ := lp_of g3.good hb1
          have hρ1 : z1.ρ id = z.ρ id := g1.rho id hid
          rw [hρ1] at hL1
          have hlt1 : z.ρ id < z1.h.size := (Array.getElem?_eq_some_iff.1 hL1).1
          refine ⟨_, run_beginRound (by rw [← g3.heap]; exact hL1) (r4 rfl), ?_⟩
          let z2 : Z := z1.putL id { L1 with state := .busy } (.lp env1 ps1 asg1 body1 false none)
          have hT2 : Tr C.P N z1 z2 := putL_tr g3.good hb1 _ (by simp)
          have hG2 : Good C N z2 := putL_good g3.good hb1 (.inr ⟨_, _, _, _, _, _, rfl, r1, r2, r3, by simp, by simp, r6, r7, r8⟩)
          have hI2 : CInv C N z.h.size L.tmps.size z2 (w1.putObj (z.ρ id) (.loop { L1 with state := .busy })) (s1.setMem { s1.mem with blks := s1.mem.blks.set id (.lp env1 ps1 asg1 body1 false none) }) a1 :=
            ⟨hG2, by show z1.h.setIfInBounds (z1.ρ id) _ = w1.heap.setIfInBounds _ _; rw [hρ1, g3.heap], by show ({ z1.m with blks := _ } : Mem) = _; rw [g3.mem]; rfl, fun t => R_step hT2 (g3.env t), g3.size, Nat.le_trans g3.los hT2.size, g3.marks.step g3.good hT2⟩
          refine code_sound hC hR hY (run_D n) L.body p3 hbody hI2 hFr (hro (g1.trans hT2)) fun ex a3 w3 hex hp => ?_
          obtain ⟨z3, k1, k2, k3⟩ := hp
          unfold yfin at hfin
          split at hfin
          · rename_i env3 ps3 asg3 body3 rdy3 pend3 hb3
            rw [← k3.mem] at hb3
            obtain ⟨L3, hL3, t1, t2, t3, t4, t5, t6, t7, t8⟩ := lp_of k3.good hb3
            have hρ3 : z3.ρ id = z.ρ id := by
              rw [(hT2.trans k1).rho id (Nat.lt_of_lt_of_le hid g1.blks), hρ1]
            rw [hρ3] at hL3
            have hTz3 : Tr C.P N z z3 := g1.trans (hT2.trans k1)
            have hWS : WS w w3 := g2.trans ((⟨rfl, rfl, rfl⟩ : WS w1 (w1.putObj (z.ρ id) (.loop { L1 with state := .busy }))).trans k2)
            have fin : ∀ (jump : Option Code) (rdy : Bool) (pend : Option Ex) (b : Bool), b = jump.isNone → v = .bool b → m' = { s3.mem with blks := s3.mem.blks.set id (.lp env3 ps3 asg3 body3 rdy pend) } →
                LpOK C N z3 { L3 with state := if jump.isNone then .ready else .done, pending := jump } env3 ps3 asg3 body3 rdy pend →
                ∃ v2 w4, (Instr.endRound (z.ρ id) jump).run C.P w3 = .ok v2 w4 ∧ CallOK C N z m' v w (.returned v2) w4 := by
              intro jump rdy pend b hbj hv hm' hLp
              refine ⟨_, _, run_endRound jump (by rw [← k3.heap]; exact hL3), ?_⟩
              let z4 : Z := z3.putL id { L3 with state := if jump.isNone then .ready else .done, pending := jump } (.lp env3 ps3 asg3 body3 rdy pend)
              have hT4 : Tr C.P N z3 z4 := putL_tr k3.good hb3 _ (by simp)
              refine ⟨z4, ?_, putL_good k3.good hb3 (.inr ⟨_, _, _, _, _, _, rfl, hLp⟩), hTz3.trans hT4, ?_, ?_, hWS.trans ⟨rfl, rfl, rfl⟩⟩
              · rw [hv, hbj]; exact R_bool.2 rfl
              · show z3.h.setIfInBounds (z3.ρ id) _ = w3.heap.setIfInBounds _ _
                rw [hρ3, k3.heap]
              · show ({ z3.m with blks := _ } : Mem) = _
                rw [k3.mem, hm']
            cases e with
            | nxt =>
              obtain rfl : ex = .normal := hex
              cases hfin
              exact fin none true none true rfl rfl rfl ⟨t1, t2, t3, fun _ => rfl, by simp, t6, t7, rfl⟩
            | out j =>
              obtain rfl : ex = .exit j := hex
              cases hfin
              exact fin (some (.exit j)) false (some (.out j)) false rfl rfl rfl ⟨t1, t2, t3, by simp, by simp, t6, t7, by simp, _, rfl, rfl⟩
            | ret =>
              obtain rfl : ex = .ret := hex
              cases hfin
              exact fin (some .ret) false (some .ret) false rfl rfl rfl ⟨t1, t2, t3, by simp, by simp, t6, t7, by simp, _, rfl, rfl⟩
          · cases hfin
        · cases hbz
      · cases h
    · cases h
  · cases h

/-- A run of the abstract machine is a run of the program. -/
theorem run_sound (hC : C.OK) : ∀ n, RunF C (run C.ft n) ∧ RunY C (run C.ft n)
  | 0 => ⟨(fun _ _ _ _ _ h => by cases h), (fun _ _ _ _ _ h => by cases h)⟩
  | n + 1 => let ⟨h1, h2⟩ := run_sound hC n; ⟨runF_step hC h1 h2, runY_step hC h1 h2⟩
end
end Go.Ab
end

section
/-
  Arguments: what a row reads off the world, as values of the abstract machine.
-/
namespace Go.Ab

inductive Ty where
  | bool | str
  | int (k : IntKind)
  | struct (ts : List Ty)
  | slice (t : Ty)

/-- A value of its cells. -/
def mkA : Ty → List AV → AV
  | .struct _, as => .agg as
  | _, as => as.headD .undef

mutual
/-- The cells of a value of a type. -/
def Cel : Ty → List AV → Prop
  | .bool, as => ∃ b, as = [.bool b]
  | .str, as => ∃ s, as = [.str s] ∧ s.size ≤ maxLen
  | .int k, as => ∃ n, as = [.int k n] ∧ (Lit.int k n).wf = true
  | .struct ts, as => Cels ts as
  | .slice t, as => ∃ es, as = [.sl es .unk] ∧ es.length ≤ maxLen ∧ ∀ e ∈ es, ∃ cs, Cel t cs ∧ e = mkA t cs
def Cels : List Ty → List AV → Prop
  | [], as => as = []
  | t :: ts, as => ∃ a b, as = a ++ b ∧ Cel t a ∧ Cels ts b
end

theorem add_bo (a : Addr) (n : Nat) : (a.add n).block = a.block ∧ (a.add n).off = a.off + n := by
  unfold Addr.add
  split
  · rename_i h; subst h; exact ⟨rfl, rfl⟩
  · exact ⟨rfl, rfl⟩

def lay (P : Program) : List Field → Nat → Option Nat
  | [], o => some o
  | f :: r, o => if f.offset = o then lay P r (o + P.cellsOf f.type) else none
def tyOf (P : Program) : Nat → TypeId → Option Ty
  | 0, _ => none
  | k + 1, t => match P.underlying t with
    | some .bool => some .bool
    | some .string => some .str
    | some (.int q) => some (.int q)
    | some (.slice e) => if 1 ≤ P.cellsOf e then (tyOf P k e).map .slice else none
    | some (.struct fs) => if lay P fs.toList 0 = some (P.cellsOf t) then (fs.toList.mapM fun f => tyOf P k f.type).map .struct else none
    | _ => none

theorem mkA_cells {t : Ty} {as : List AV} (h : Cel t as) : (mkA t as).cells = as := by
  cases t with
  | struct ts => rfl
  | bool => obtain ⟨b, rfl⟩ := h; rfl
  | str => obtain ⟨b, rfl, _⟩ := h; rfl
  | int k => obtain ⟨b, rfl, _⟩ := h; rfl
  | slice t => obtain ⟨b, rfl, _⟩ := h; rfl

theorem exists_list {α : Type} {p : Nat → α → Prop} : ∀ n : Nat, (∀ i, i < n → ∃ a, p i a) → ∃ l : List α, l.length = n ∧ ∀ (i : Nat) a, l[i]? = some a → p i a
  | 0, _ => ⟨[], rfl, fun i a h => by simp at h⟩
  | n + 1, h => by
    obtain ⟨l, h1, h2⟩ := exists_list n fun i hi => h i (by omega)
    obtain ⟨a, ha⟩ := h n (by omega)
    refine ⟨l ++ [a], by simp [h1], fun i b hb => ?_⟩
    rcases get_snoc hb with ⟨h3, _⟩ | ⟨h3, rfl⟩
    · exact h2 i b h3
    · rw [h3, h1]; exact ha

section
variable {H : Type} {enc : TypeId × Value → H} {P : Program} {W : World}

def Z.first (W : World) : Z := ⟨W.heap, fun _ => 0, fun _ => 0, .nil⟩
abbrev N0 : Nat → Nat → Prop := fun _ _ => False
theorem X_first {b o : Nat} : ¬X P N0 (Z.first W) b o := by
  rintro (h | ⟨id, es, sz, h, _⟩ | ⟨t, n, T, h, _⟩)
  · exact h
  · simp [Z.first, Mem.nil] at h
  · simp [Z.first, Mem.nil] at h

abbrev RC (P : Program) (W : World) (a : AV) (u : Value) : Prop := R P N0 (Z.first W) a u ∧ u.oneCell' = true

theorem lay_cels {spare : Nat → Bool} {base fuel k : Nat} (ih : ∀ (t : TypeId) (cs : List Value) x ty, DataW.trod enc P W base spare true fuel t cs = some x → tyOf P k t = some ty → ∃ as, Cel ty as ∧ RL (RC P W) as cs) {cs : List Value} {tot : Nat} (htot : cs.length = tot) :
    ∀ (fs : List Field) (o : Nat) (tys : List Ty), lay P fs o = some tot → fs.mapM (fun f => tyOf P k f.type) = some tys → o ≤ tot →
      (∀ f ∈ fs, ∃ x, DataW.trod enc P W base spare true fuel f.type ((cs.drop f.offset).take (P.cellsOf f.type)) = some x) → ∃ as, Cels tys as ∧ RL (RC P W) as (cs.drop o)
  | [], o, tys, hl, ht, ho, _ => by
    simp only [lay, Option.some.injEq] at hl
    simp at ht
    subst ht
    refine ⟨[], rfl, ?_⟩
    rw [List.drop_eq_nil_of_le (by omega)]
    exact ⟨rfl, fun i a u h => by simp at h⟩
  | f :: fs, o, tys, hl, ht, ho, hx => by
    simp only [lay] at hl
    split at hl
    · rename_i hfo
      simp only [List.mapM_cons, bind, Option.bind_eq_some_iff, pure, Option.some.injEq] at ht
      obtain ⟨ty, h1, tys', h2, rfl⟩ := ht
      obtain ⟨x, h3⟩ := hx f (by simp)
      obtain ⟨as, h4, h5⟩ := ih _ _ x ty h3 h1
      have hle : ∀ (fs : List Field) (o : Nat), lay P fs o = some tot → o ≤ tot := by
        intro fs
        induction fs with
        | nil => intro o h; simp [lay] at h; omega
        | cons f fs ihf =>
          intro o h
          simp only [lay] at h
          split at h
          · have := ihf _ h; omega
          · cases h
      have ho2 := hle _ _ hl
      obtain ⟨bs, h6, h7⟩ := lay_cels ih htot fs (o + P.cellsOf f.type) tys' hl h2 ho2 fun f' hf' => hx f' (by simp [hf'])
      refine ⟨as ++ bs, ⟨as, bs, rfl, h4, h6⟩, ?_⟩
      rw [hfo] at h5
      have : cs.drop o = (cs.drop o).take (P.cellsOf f.type) ++ cs.drop (o + P.cellsOf f.type) := by
        rw [← List.drop_drop, List.take_append_drop]
      rw [this]
      exact RL_app h5 h7
    · cases hl

theorem trod_cel {spare : Nat → Bool} {base : Nat} : ∀ (fuel k : Nat) (t : TypeId) (cs : List Value) (x : DataW H × List MemPlace) (ty : Ty), DataW.trod enc P W base spare true fuel t cs = some x → tyOf P k t = some ty →
    ∃ as, Cel ty as ∧ RL (RC P W) as cs
  | fuel, 0, _, _, _, _, _, h => by cases h
  | 0, _ + 1, _, _, _, _, h, _ => by simp [DataW.trod] at h
  | fuel + 1, k + 1, t, cs, x, ty, h, hty => by
    have ih := fun t cs x ty => trod_cel (spare := spare) (base := base) fuel k t cs x ty
    have one : ∀ {a : AV} {u : Value}, R P N0 (Z.first W) a u → u.oneCell' = true → RL (RC P W) [a] [u] := fun h1 h2 => ⟨rfl, fun i a u h3 h4 => by
      cases i with
      | zero => simp at h3 h4; subst h3; subst h4; exact ⟨h1, h2⟩
      | succ i => simp at h3⟩
    simp only [tyOf] at hty
    split at hty
    · rename_i hu
      cases hty
      unfold DataW.trod at h
      rw [hu] at h
      split at h <;> simp_all
      exact ⟨_, ⟨_, rfl⟩, one (R_bool.2 rfl) rfl⟩
    · rename_i hu
      cases hty
      unfold DataW.trod at h
      rw [hu] at h
      split at h <;> simp_all
      exact ⟨_, ⟨_, rfl, h.1⟩, one (R_str.2 rfl) rfl⟩
    · rename_i q hu
      cases hty
      unfold DataW.trod at h
      rw [hu] at h
      split at h <;> simp_all
      obtain ⟨⟨rfl, h1⟩, _⟩ := h
      exact ⟨_, ⟨_, rfl, h1⟩, one (R_int.2 rfl) rfl⟩
    · rename_i e hu
      split at hty
      · rename_i he1
        obtain ⟨te, h1, rfl⟩ := Option.map_eq_some_iff.1 hty
        rcases DataW.trod_slice hu h with ⟨rfl, _⟩ | ⟨a, len, cap, elems, rest, n, hn, rfl, _, h2, h3, h4, h5, h6, _, _⟩
        · exact ⟨[.sl [] .unk], ⟨[], rfl, Nat.zero_le _, fun e he => by cases he⟩, one (R_sl.2 ⟨none, 0, 0, rfl, Nat.le_refl _, Nat.zero_le _, fun _ => rfl, (fun e he => by cases he), (fun i e he => by simp at he), trivial⟩) rfl⟩
        · obtain rfl : fuel = n := by omega
          have each : ∀ i, i < len → ∃ e0 : AV, (∃ cs, Cel te cs ∧ e0 = mkA te cs) ∧ e0.cells.length = P.cellsOf e ∧ (i = 0 → a.spot = none) ∧ ∀ (j : Nat) b, e0.cells[j]? = some b → ∃ u, cellAt W.heap a.block (a.off + i * P.cellsOf e + j) = some u ∧ RC P W b u := by
            intro i hi
            have h7 := h6 i hi
            rw [List.getElem?_eq_getElem (by omega)] at h7
            obtain ⟨ci, h8, h9⟩ := Option.bind_eq_some_iff.1 h7
            obtain ⟨as, h10, h11⟩ := ih _ _ _ te h9 h1
            obtain ⟨g1, g2, g3⟩ := World.cells?_some h8
            have hc := mkA_cells h10
            have hlen : as.length = P.cellsOf e := by rw [h11.1, g2]
            have cell : ∀ (j : Nat) u, ci[j]? = some u → (i = 0 → j = 0 → a.spot = none) ∧ cellAt W.heap a.block (a.off + i * P.cellsOf e + j) = some u := by
              intro j u hj
              have h12 := g3 j (by have := (List.getElem?_eq_some_iff.1 hj).1; omega)
              rw [hj] at h12
              unfold World.cell? at h12
              rw [(add_bo _ _).1, (add_bo _ _).1, (add_bo _ _).2, (add_bo _ _).2] at h12
              unfold cellAt
              split at h12
              · rename_i c ty' fr hb
                rw [hb]
                split at h12
                · cases h12
                · rename_i hs
                  refine ⟨fun hi0 hj0 => ?_, h12⟩
                  subst hi0; subst hj0
                  simpa [Addr.add] using hs
              · cases h12
            obtain ⟨u0, hu0⟩ : ∃ u0, ci[0]? = some u0 := ⟨_, List.getElem?_eq_getElem (by omega)⟩
            refine ⟨mkA te as, ⟨as, h10, rfl⟩, by rw [hc, hlen], fun hi0 => (cell 0 u0 hu0).1 hi0 rfl, fun j b hj => ?_⟩
            rw [hc] at hj
            obtain ⟨u, hu1, hu2⟩ := RL_get h11 hj
            exact ⟨u, (cell j u hu1).2, hu2⟩
          obtain ⟨es, hel, hes⟩ := exists_list len each
          refine ⟨[.sl es .unk], ⟨es, rfl, by omega, fun e0 he0 => ?_⟩, one ?_ rfl⟩
          · obtain ⟨i, hi⟩ := List.mem_iff_getElem?.1 he0
            exact (hes i e0 hi).1
          · refine R_sl.2 ⟨some a, cap, P.cellsOf e, by rw [hel], by omega, h4, (fun h => by cases h), fun e0 he0 => ?_, fun i e0 hi => ?_, trivial⟩
            · obtain ⟨i, hi⟩ := List.mem_iff_getElem?.1 he0
              exact (hes i e0 hi).2.1
            · obtain ⟨_, _, _, hcell⟩ := hes i e0 hi
              have hlt := (List.getElem?_eq_some_iff.1 hi).1
              have hsp : a.spot = none := (hes 0 _ (List.getElem?_eq_getElem (by omega))).2.2.1 rfl
              refine ⟨a.block, a.off, ?_, fun j b hj => ?_⟩
              · cases a; simp only at hsp; rw [hsp]
              · obtain ⟨u, hu1, hu2⟩ := hcell j b hj
                exact ⟨u, hu1, X_first, hu2.2, hu2.1⟩
      · cases hty
    · rename_i fs hu
      split at hty
      · rename_i hlay
        obtain ⟨tys, h1, rfl⟩ := Option.map_eq_some_iff.1 hty
        obtain ⟨xs, n, hn, _, h2, h3, h4⟩ := DataW.trod_struct hu h
        obtain rfl : fuel = n := by omega
        obtain ⟨as, h5, h6⟩ := lay_cels (spare := spare) (base := base) (fuel := fuel) (k := k) ih h2 fs.toList 0 tys hlay h1 (Nat.zero_le _) fun f hf => by
          obtain ⟨i, hi⟩ := List.mem_iff_getElem?.1 hf
          have h7 := h4 i f (by rw [← Array.getElem?_toList]; exact hi)
          have hlt : i < xs.length := by have := (List.getElem?_eq_some_iff.1 hi).1; simp at this; omega
          exact ⟨_, h7.trans (List.getElem?_eq_getElem hlt)⟩
        exact ⟨as, h5, by simpa using h6⟩
      · cases hty
    · cases hty
end
end Go.Ab
end

section
/-
  From a run of the abstract machine to a call of the program, in a world that begins.
-/
namespace Go.Ab
section
variable {C : Cx} {W : World}

theorem good_first (hg : ∀ g e, C.G g = some e → R C.P N0 (Z.first W) (.pv e 0) (.pointer (some ⟨g, 0, none⟩))) : Good C N0 (Z.first W) := by
  constructor
  · intro id es sz h; simp [Z.first, Mem.nil] at h
  · intro t n T h; simp [Z.first, Mem.nil] at h
  · intro id id' k k' h; simp [Z.first, Mem.nil] at h
  · intro id k t x h; simp [Z.first, Mem.nil] at h
  · intro t t' x x' h; simp [Z.first, Mem.nil] at h
  · intro id es sz h; simp [Z.first, Mem.nil] at h
  · intro t n T h; simp [Z.first, Mem.nil] at h
  · intro b o h; exact h.elim
  · intro id env ps asg body rdy pend h; simp [Z.first, Mem.nil] at h
  · exact hg
  · intro id kvs ek h; simp [Z.first, Mem.nil] at h

/-- The old memory is as it was, and so is all else. -/
structure Grown (w w' : World) : Prop where
  size : w.heap.size ≤ w'.heap.size
  old : ∀ b : Nat, b < w.heap.size → w'.heap[b]? = w.heap[b]?
  os : w'.os = w.os
  tape : w'.tape = w.tape
  output : w'.output = w.output

theorem calls_bool (hC : C.OK) (hg : ∀ g e, C.G g = some e → R C.P N0 (Z.first W) (.pv e 0) (.pointer (some ⟨g, 0, none⟩))) {f : FuncId} {as : List AV} {us : Array Value} (hr : RL (R C.P N0 (Z.first W)) as us.toList) {b : Bool} (h : RV C.ft f as (.bool b)) :
    Calls C.P f us W fun e W' => e = .returned (.bool b) ∧ Grown W W' := by
  obtain ⟨n, h⟩ := h
  unfold callV at h
  obtain ⟨⟨v1, m1⟩, h1, h2⟩ := Option.map_eq_some_iff.1 h
  have hG := good_first hg
  have := (run_sound hC n).1 f as .nil v1 m1 h1 N0 (Z.first W) W us hG rfl rfl hr Fence.wide 0 ⟨fun _ => trivial, rfl⟩
  rw [← callsIn_wide (n := 0)]
  refine CallsIn.mono this fun e W' he => ?_
  cases e with
  | returned v' =>
    obtain ⟨z1, g1, g2, g3, g4, g5, g6⟩ := he
    have h3 := snap_R (z0 := z1.bare) g2 rfl rfl (fun _ _ h => .inl h) dep g1 (.inl fun _ _ h => h)
    rw [g5] at h3
    simp only at h2
    rw [h2] at h3
    obtain rfl := R_bool.1 h3
    have hb : Z.bare (Z.first W) = Z.first W := rfl
    obtain ⟨e1, e2⟩ := bare_ext (z := Z.first W) (N' := N0) hG (by rw [hb]; exact g3)
    rw [g4] at e1 e2
    exact ⟨rfl, e1, e2, g6.os, g6.tape, g6.output⟩
  | panicked _ => exact he.elim
  | outgrown => exact he.elim
end
end Go.Ab
end

section
/-
  A law's row: it answers true, and its arguments read as they did.
-/
namespace Go.Ab
open Go.ChangeShapes
section
variable {H : Type} {enc : TypeId × Value → H} {P : Program} {W W' : World}

theorem Grown.cell (h : Grown W W') {a : Addr} (ha : a.block < W.heap.size) : W'.cell? a = W.cell? a := by
  unfold World.cell?; rw [h.old _ ha]
theorem Grown.frozen (h : Grown W W') {a : Addr} (ha : a.block < W.heap.size) : W'.frozen? a = W.frozen? a := by
  unfold World.frozen?; rw [h.old _ ha]
theorem Grown.same (h : Grown W W') {p : MemPlace} (hp : p.block < W.heap.size) : W.sameAt W' p := by
  cases p with
  | cell b off => exact h.cell (a := ⟨b, off, none⟩) hp
  | map b => exact h.old b hp

theorem TrodAll_stays {base : Nat} {sp' : Nat → Bool} (hl : laidOutB P = true) : ∀ {ts : List TypeId} {vs : List Value} {ds : List (DataW H)} {ps : List MemPlace}, (∀ t ∈ ts, P.readableRec t = true ∧ t < P.types.size) →
    DataW.TrodAll enc P W base (fun _ => true) true ts vs ds ps → (∀ p ∈ ps, W.sameAt W' p) → (∀ p ∈ ps, sp' p.block = true) → DataW.TrodAll enc P W' base sp' true ts vs ds ps
  | [], _, _, _, _, h, _, _ => by
    obtain ⟨rfl, rfl, rfl⟩ := trodAll_nil h
    rfl
  | t :: ts, _, _, _, ht, h, hsame, hs => by
    obtain ⟨v, vs1, d, ds1, a, b, rfl, rfl, rfl, h1, h2⟩ := trodAll_cons h
    exact ⟨a, b, Go.WideElems.Trod_stays hl (ht t (by simp)).1 (ht t (by simp)).2 h1 (fun p hp => hsame p (by simp [hp])) (fun p hp => hs p (by simp [hp])),
      TrodAll_stays hl (fun t' ht' => ht t' (by simp [ht'])) h2 (fun p hp => hsame p (by simp [hp])) (fun p hp => hs p (by simp [hp])), rfl⟩

theorem law_post {fn : Func} {s : ChangeSpec} {fresh handsOn again : Bool} {args : Array Value} {ds gs : List (DataW H)} {before : List MemPlace} {tb : TypeId} (hl : laidOutB P = true) (hts : ∀ t ∈ fn.params.toList, P.readableRec t = true ∧ t < P.types.size)
    (hvars : s.vars = []) (hres : fn.resultTypes = #[tb]) (hb : P.underlying tb = some .bool) (hspec : s.fn H ds = { results := [.lit (.bool true)], args := ds })
    (hW : DataW.Whole enc P fn.params.toList s.vars false W args.toList ds gs before) (hg : Grown W W') : s.post enc P fn false fresh handsOn again W args (.bool true) W' := by
  have hlt := hW.lt
  have hWc := hW
  obtain ⟨p, q, hA, hV, hps, hz, _⟩ := hW
  rw [hvars] at hV
  obtain ⟨rfl, rfl⟩ := trodVars_none hV
  rw [List.append_nil] at hps
  subst hps
  have hfn : s.fn H (ds ++ []) = { results := [.lit (.bool true)], args := ds } := by rw [List.append_nil]; exact hspec
  have hargs : ∀ sp : Nat → Bool, (∀ x ∈ before, sp x.block = true) → DataW.TrodAll enc P W' 0 sp true fn.params.toList args.toList ds before := fun sp hsp =>
    TrodAll_stays hl hts hA (fun x hx => hg.same (hlt x hx)) hsp
  have hr : ∀ (b : Nat) (sp : Nat → Bool) (hd : Bool), DataW.TrodAll enc P W' b sp hd fn.resultTypes.toList ((Value.bool true).resultList fn.resultTypes.size) [.lit (.bool true)] [] := by
    intro b sp hd
    rw [hres]
    exact trodAll_mk1 (Go.RowKit.shut_bool hb true)
  have hv : ∀ sp : Nat → Bool, DataW.TrodVars enc P W' sp s.vars ([] : List (DataW H)) [] := by intro sp; rw [hvars]; rfl
  refine ⟨ds, [], before, [], before, [], hWc, ?_, ?_, ?_, ?_, fun _ => ⟨?_, _, _, ([] ++ before) ++ [], ⟨[] ++ before, [], trodAll_append (hargs _ fun _ _ => rfl) (hr _ _ _), hv _, rfl, ?_, fun h => by cases h⟩, ?_⟩⟩
  · rw [hfn]; exact hr _ _ _
  · rw [hfn]; exact hargs _ fun x hx => by simpa using hlt x hx
  · rw [hfn]; exact hv _
  · exact ⟨hg.os, hg.output, fun i hi => by rw [hg.old i hi]; exact (World.keptBut_refl W (fun p => p ∈ before ∧ (p ∈ ([] : List MemPlace) ∨ p ∈ before ∨ p ∈ ([] : List MemPlace)))).2.2 i hi⟩
  · intro j t r h1 h2
    rw [hres] at h1 h2
    cases j with
    | zero =>
      simp at h1; subst h1
      have : r = .bool true := by simpa [Value.resultList] using h2.symm
      subst this
      exact Go.RowKit.okWide_bool_mk hb true
    | succ j => simp at h1
  · intro b off hp
    have hp : MemPlace.cell b off ∈ before := by simpa using hp
    rw [hg.frozen (a := ⟨b, off, none⟩) (hlt _ hp)]
    exact hz b off hp
  · intro x hx _; simpa using hx
end
end Go.Ab
end
