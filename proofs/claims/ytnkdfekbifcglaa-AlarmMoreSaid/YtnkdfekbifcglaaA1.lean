/-
  A part of the proofs over this seat.
  (The texts Ab5 Ab6 Ab7 Ab8 Ab9 Ab10 Ab11 Ab12 Ab13 Ab14, one behind the other.)
-/
import Derived.Test.YtnkdfekbifcglaaA0
import Derived.Laws.AppendOwn
import Derived.RangeFuncRecord
import GoSem.Dispatch
set_option linter.unusedSimpArgs false
set_option linter.unusedVariables false
set_option linter.unusedSectionVars false
section
/-
  What a value of the abstract machine stands for in a world: the relation, and that it lasts.
-/
namespace Go.Ab

def cellAt (h : Array Obj) (b o : Nat) : Option Value := match h[b]? with
  | some (.cells c _ _) => c[o]?
  | _ => none
def csize (h : Array Obj) (b : Nat) : Nat := match h[b]? with
  | some (.cells c _ _) => c.size
  | _ => 0

/-- The heap, and where the abstract blocks and tokens lie in it. -/
structure Z where
  h : Array Obj
  ρ : Nat → Nat
  τ : Nat → Nat
  m : Mem

def tsz (P : Program) (T : Nat) : Nat := P.cellsOf T

/-- The cells that may be written: a block that is live; behind a token's mark. And those of the callers. -/
def X (P : Program) (N : Nat → Nat → Prop) (z : Z) (b o : Nat) : Prop :=
  N b o ∨ (∃ id es sz, z.m.blks[id]? = some (.live es sz) ∧ z.ρ id = b) ∨ (∃ t n T, z.m.toks[t]? = some (n, T) ∧ z.τ t = b ∧ n * tsz P T ≤ o)

/-- The blocks that are owned. -/
def Own (z : Z) (b : Nat) : Prop :=
  (∃ (id : Nat) (k : Blk), z.m.blks[id]? = some k ∧ k ≠ .dead ∧ z.ρ id = b) ∨ (∃ (t : Nat) (x : Nat × Nat), z.m.toks[t]? = some x ∧ z.τ t = b)

def RL (R : AV → Value → Prop) (as : List AV) (us : List Value) : Prop := as.length = us.length ∧ ∀ (i : Nat) a u, as[i]? = some a → us[i]? = some u → R a u
def AtI (P : Program) (N : Nat → Nat → Prop) (z : Z) (R : AV → Value → Prop) (e : AV) (b o : Nat) : Prop :=
  ∀ (j : Nat) a, e.cells[j]? = some a → ∃ u, cellAt z.h b (o + j) = some u ∧ ¬X P N z b (o + j) ∧ u.oneCell' = true ∧ R a u

def TkRep (z : Z) (n st : Nat) (a : Option Addr) (cap : Nat) : Tk → Prop
  | .unk => True
  | .tight => cap = n
  | .at t => t < z.m.toks.length ∧ ∀ k T, z.m.toks[t]? = some (k, T) → n ≤ k ∧ (n = k → a = some ⟨z.τ t, 0, none⟩ ∧ cap * st = csize z.h (z.τ t))

def Rep (P : Program) (N : Nat → Nat → Prop) (z : Z) : Nat → AV → Value → Prop
  | 0, _, _ => False
  | n + 1, a, v => match a with
    | .undef => True
    | .bool b => v = .bool b
    | .int k i => v = .int k i
    | .str s => v = .string s
    | .nilf => v = .nilFunc
    | .nilp => v = .pointer none
    | .nilm => v = .map none
    | .agg cs => ∃ us : Array Value, v = .agg us ∧ RL (Rep P N z n) cs us.toList
    | .tup cs => ∃ us : Array Value, v = .tuple us ∧ RL (Rep P N z n) cs us.toList
    | .sl es tk => ∃ (a : Option Addr) (cap st : Nat), v = .slice a es.length cap ∧ es.length ≤ cap ∧ cap ≤ maxLen ∧ (a = none → cap = 0) ∧ (∀ e ∈ es, e.cells.length = st) ∧
        (∀ (i : Nat) e, es[i]? = some e → ∃ b o, a = some ⟨b, o, none⟩ ∧ AtI P N z (Rep P N z n) e b (o + i * st)) ∧ TkRep z es.length st a cap tk
    | .ref id off len => id < z.m.blks.length ∧ (∃ a l c, v = .slice a l c) ∧ ∀ es sz, z.m.blks[id]? = some (.live es sz) → ∃ cap, v = .slice (some ⟨z.ρ id, off * sz, none⟩) len cap ∧ len ≤ cap ∧ off + cap ≤ maxLen ∧ (off + cap) * sz = csize z.h (z.ρ id)
    | .ptr id ix off => id < z.m.blks.length ∧ (∃ a, v = .pointer a) ∧ ∀ es sz, z.m.blks[id]? = some (.live es sz) → v = .pointer (some ⟨z.ρ id, ix * sz + off, none⟩)
    | .pv e off => ∃ b o, v = .pointer (some ⟨b, o + off, none⟩) ∧ AtI P N z (Rep P N z n) e b o
    | .fn f first cap => ∃ fs cs : Array Value, v = .func (.func f) fs cs ∧ RL (Rep P N z n) first fs.toList ∧ RL (Rep P N z n) cap cs.toList
    | .yld id => id < z.m.blks.length ∧ v = .func (.yield (z.ρ id)) #[] #[]
    | .mp id => id < z.m.blks.length ∧ v = .map (some (z.ρ id))
    | .itr id => id < z.m.blks.length ∧ v = .pointer (some ⟨z.ρ id, 0, none⟩)
    | .aps id ix off n => id < z.m.blks.length ∧ (∃ a l c, v = .slice a l c) ∧ ∀ es sz, z.m.blks[id]? = some (.live es sz) → v = .slice (some ⟨z.ρ id, ix * sz + off, none⟩) n n

/-- Some depth serves. -/
def R (P : Program) (N : Nat → Nat → Prop) (z : Z) (a : AV) (v : Value) : Prop := ∃ n, Rep P N z n a v

section
variable {P : Program} {N : Nat → Nat → Prop} {z z' : Z}

theorem RL.mono {R R' : AV → Value → Prop} (h : ∀ a u, R a u → R' a u) {as : List AV} {us : List Value} (hr : RL R as us) : RL R' as us :=
  ⟨hr.1, fun i a u h1 h2 => h _ _ (hr.2 i a u h1 h2)⟩
theorem AtI.mono {R R' : AV → Value → Prop} (h : ∀ a u, R a u → R' a u) {e : AV} {b o : Nat} (hr : AtI P N z R e b o) : AtI P N z R' e b o :=
  fun j a h1 => let ⟨u, h2, h3, h3', h4⟩ := hr j a h1; ⟨u, h2, h3, h3', h _ _ h4⟩

theorem Rep_succ : ∀ {n : Nat} {a : AV} {v : Value}, Rep P N z n a v → Rep P N z (n + 1) a v
  | 0, _, _, h => h.elim
  | n + 1, a, v, h => by
    have ih : ∀ a u, Rep P N z n a u → Rep P N z (n + 1) a u := fun _ _ h => Rep_succ h
    cases a with
    | agg cs => obtain ⟨us, hv, hr⟩ := h; exact ⟨us, hv, hr.mono ih⟩
    | tup cs => obtain ⟨us, hv, hr⟩ := h; exact ⟨us, hv, hr.mono ih⟩
    | sl es tk =>
      obtain ⟨a, cap, st, hv, h1, h1', h2, h3, h4, h5⟩ := h
      exact ⟨a, cap, st, hv, h1, h1', h2, h3, fun i e he => let ⟨b, o, h6, h7⟩ := h4 i e he; ⟨b, o, h6, h7.mono ih⟩, h5⟩
    | pv e off => obtain ⟨b, o, hv, h1⟩ := h; exact ⟨b, o, hv, h1.mono ih⟩
    | fn f first cap => obtain ⟨fs, cs, hv, h1, h2⟩ := h; exact ⟨fs, cs, hv, h1.mono ih, h2.mono ih⟩
    | _ => exact h
theorem Rep_le {n n' : Nat} (hn : n ≤ n') {a : AV} {v : Value} (h : Rep P N z n a v) : Rep P N z n' a v := by
  induction hn with
  | refl => exact h
  | step _ ih => exact Rep_succ ih
theorem RL_lift : ∀ {as : List AV} {us : List Value}, RL (R P N z) as us → ∃ n, RL (Rep P N z n) as us
  | [], [], _ => ⟨0, rfl, fun i a u h => by simp at h⟩
  | [], _ :: _, h => by simp [RL] at h
  | _ :: _, [], h => by simp [RL] at h
  | a :: as, u :: us, h => by
    obtain ⟨n, hn⟩ := h.2 0 a u rfl rfl
    obtain ⟨n', hl, hr⟩ := RL_lift (as := as) (us := us) ⟨by simpa using h.1, fun i a u h1 h2 => h.2 (i + 1) a u (by simpa using h1) (by simpa using h2)⟩
    refine ⟨max n n', by simp [hl], fun i a' u' h1 h2 => ?_⟩
    cases i with
    | zero => simp at h1 h2; subst h1; subst h2; exact Rep_le (Nat.le_max_left _ _) hn
    | succ i => exact Rep_le (Nat.le_max_right _ _) (hr i a' u' (by simpa using h1) (by simpa using h2))
theorem exists_bound {α : Type} (p : α → Nat → Prop) (hm : ∀ a n n', n ≤ n' → p a n → p a n') : ∀ l : List α, (∀ a ∈ l, ∃ n, p a n) → ∃ n, ∀ a ∈ l, p a n
  | [], _ => ⟨0, fun _ h => by cases h⟩
  | a :: l, h => by
    obtain ⟨n, hn⟩ := h a (by simp)
    obtain ⟨n', hn'⟩ := exists_bound p hm l fun a ha => h a (by simp [ha])
    refine ⟨max n n', fun b hb => ?_⟩
    rcases List.mem_cons.1 hb with rfl | hb
    · exact hm _ _ _ (Nat.le_max_left _ _) hn
    · exact hm _ _ _ (Nat.le_max_right _ _) (hn' b hb)
theorem AtI_lift {e : AV} {b o : Nat} (h : AtI P N z (R P N z) e b o) : ∃ n, AtI P N z (Rep P N z n) e b o := by
  obtain ⟨n, hn⟩ := exists_bound (fun (ja : Nat × AV) n => e.cells[ja.1]? = some ja.2 → ∃ u, cellAt z.h b (o + ja.1) = some u ∧ ¬X P N z b (o + ja.1) ∧ u.oneCell' = true ∧ Rep P N z n ja.2 u)
    (fun ja n n' hn hp hj => let ⟨u, h1, h2, h2', h3⟩ := hp hj; ⟨u, h1, h2, h2', Rep_le hn h3⟩) (e.cells.zipIdx.map fun p => (p.2, p.1))
    (fun ja _ => by
      by_cases hj : e.cells[ja.1]? = some ja.2
      · obtain ⟨u, h1, h2, h2', n, h3⟩ := h _ _ hj; exact ⟨n, fun _ => ⟨u, h1, h2, h2', h3⟩⟩
      · exact ⟨0, fun h => absurd h hj⟩)
  refine ⟨n, fun j a hj => hn (j, a) ?_ hj⟩
  refine List.mem_map.2 ⟨(a, j), ?_, rfl⟩
  obtain ⟨hlt, he⟩ := List.getElem?_eq_some_iff.1 hj
  rw [List.mem_zipIdx_iff_getElem?]
  exact hj

/-! ### Intro and elim, over R -/
theorem R_undef (v : Value) : R P N z .undef v := ⟨1, trivial⟩
theorem R_bool {b : Bool} {v : Value} : R P N z (.bool b) v ↔ v = .bool b := ⟨fun ⟨n, h⟩ => by cases n with | zero => exact h.elim | succ n => exact h, fun h => ⟨1, h⟩⟩
theorem R_int {k : IntKind} {i : Int} {v : Value} : R P N z (.int k i) v ↔ v = .int k i := ⟨fun ⟨n, h⟩ => by cases n with | zero => exact h.elim | succ n => exact h, fun h => ⟨1, h⟩⟩
theorem R_str {s : ByteArray} {v : Value} : R P N z (.str s) v ↔ v = .string s := ⟨fun ⟨n, h⟩ => by cases n with | zero => exact h.elim | succ n => exact h, fun h => ⟨1, h⟩⟩
theorem R_nilf {v : Value} : R P N z .nilf v ↔ v = .nilFunc := ⟨fun ⟨n, h⟩ => by cases n with | zero => exact h.elim | succ n => exact h, fun h => ⟨1, h⟩⟩
theorem R_nilp {v : Value} : R P N z .nilp v ↔ v = .pointer none := ⟨fun ⟨n, h⟩ => by cases n with | zero => exact h.elim | succ n => exact h, fun h => ⟨1, h⟩⟩
theorem R_agg {cs : List AV} {v : Value} : R P N z (.agg cs) v ↔ ∃ us : Array Value, v = .agg us ∧ RL (R P N z) cs us.toList :=
  ⟨fun ⟨n, h⟩ => by cases n with | zero => exact h.elim | succ n => obtain ⟨us, h1, h2⟩ := h; exact ⟨us, h1, h2.mono fun _ _ h => ⟨n, h⟩⟩,
   fun ⟨us, h1, h2⟩ => let ⟨n, hn⟩ := RL_lift h2; ⟨n + 1, us, h1, hn⟩⟩
theorem R_tup {cs : List AV} {v : Value} : R P N z (.tup cs) v ↔ ∃ us : Array Value, v = .tuple us ∧ RL (R P N z) cs us.toList :=
  ⟨fun ⟨n, h⟩ => by cases n with | zero => exact h.elim | succ n => obtain ⟨us, h1, h2⟩ := h; exact ⟨us, h1, h2.mono fun _ _ h => ⟨n, h⟩⟩,
   fun ⟨us, h1, h2⟩ => let ⟨n, hn⟩ := RL_lift h2; ⟨n + 1, us, h1, hn⟩⟩
theorem R_sl {es : List AV} {tk : Tk} {v : Value} : R P N z (.sl es tk) v ↔ ∃ (a : Option Addr) (cap st : Nat), v = .slice a es.length cap ∧ es.length ≤ cap ∧ cap ≤ maxLen ∧ (a = none → cap = 0) ∧ (∀ e ∈ es, e.cells.length = st) ∧
    (∀ (i : Nat) e, es[i]? = some e → ∃ b o, a = some ⟨b, o, none⟩ ∧ AtI P N z (R P N z) e b (o + i * st)) ∧ TkRep z es.length st a cap tk := by
  constructor
  · rintro ⟨n, h⟩
    cases n with
    | zero => exact h.elim
    | succ n =>
      obtain ⟨a, cap, st, hv, h1, h1', h2, h3, h4, h5⟩ := h
      exact ⟨a, cap, st, hv, h1, h1', h2, h3, fun i e he => let ⟨b, o, h6, h7⟩ := h4 i e he; ⟨b, o, h6, h7.mono fun _ _ h => ⟨n, h⟩⟩, h5⟩
  · rintro ⟨a, cap, st, hv, h1, h1', h2, h3, h4, h5⟩
    obtain ⟨n, hn⟩ := exists_bound (fun (p : Nat × AV) n => es[p.1]? = some p.2 → ∃ b o, a = some ⟨b, o, none⟩ ∧ AtI P N z (Rep P N z n) p.2 b (o + p.1 * st))
      (fun p n n' hn hp hj => let ⟨b, o, h6, h7⟩ := hp hj; ⟨b, o, h6, h7.mono fun _ _ h => Rep_le hn h⟩) (es.zipIdx.map fun p => (p.2, p.1))
      (fun p _ => by
        by_cases hj : es[p.1]? = some p.2
        · obtain ⟨b, o, h6, h7⟩ := h4 _ _ hj
          obtain ⟨n, hn⟩ := AtI_lift h7
          exact ⟨n, fun _ => ⟨b, o, h6, hn⟩⟩
        · exact ⟨0, fun h => absurd h hj⟩)
    refine ⟨n + 1, a, cap, st, hv, h1, h1', h2, h3, fun i e he => hn (i, e) ?_ he, h5⟩
    refine List.mem_map.2 ⟨(e, i), ?_, rfl⟩
    rw [List.mem_zipIdx_iff_getElem?]
    exact he
theorem R_ref {id off len : Nat} {v : Value} : R P N z (.ref id off len) v ↔ id < z.m.blks.length ∧ (∃ a l c, v = .slice a l c) ∧ ∀ es sz, z.m.blks[id]? = some (.live es sz) → ∃ cap, v = .slice (some ⟨z.ρ id, off * sz, none⟩) len cap ∧ len ≤ cap ∧ off + cap ≤ maxLen ∧ (off + cap) * sz = csize z.h (z.ρ id) :=
  ⟨fun ⟨n, h⟩ => by cases n with | zero => exact h.elim | succ n => exact h, fun h => ⟨1, h⟩⟩
theorem R_ptr {id ix off : Nat} {v : Value} : R P N z (.ptr id ix off) v ↔ id < z.m.blks.length ∧ (∃ a, v = .pointer a) ∧ ∀ es sz, z.m.blks[id]? = some (.live es sz) → v = .pointer (some ⟨z.ρ id, ix * sz + off, none⟩) :=
  ⟨fun ⟨n, h⟩ => by cases n with | zero => exact h.elim | succ n => exact h, fun h => ⟨1, h⟩⟩
theorem R_pv {e : AV} {off : Nat} {v : Value} : R P N z (.pv e off) v ↔ ∃ b o, v = .pointer (some ⟨b, o + off, none⟩) ∧ AtI P N z (R P N z) e b o :=
  ⟨fun ⟨n, h⟩ => by cases n with | zero => exact h.elim | succ n => obtain ⟨b, o, h1, h2⟩ := h; exact ⟨b, o, h1, h2.mono fun _ _ h => ⟨n, h⟩⟩,
   fun ⟨b, o, h1, h2⟩ => let ⟨n, hn⟩ := AtI_lift h2; ⟨n + 1, b, o, h1, hn⟩⟩
theorem R_fn {f : FuncId} {first cap : List AV} {v : Value} : R P N z (.fn f first cap) v ↔ ∃ fs cs : Array Value, v = .func (.func f) fs cs ∧ RL (R P N z) first fs.toList ∧ RL (R P N z) cap cs.toList :=
  ⟨fun ⟨n, h⟩ => by cases n with | zero => exact h.elim | succ n => obtain ⟨fs, cs, h1, h2, h3⟩ := h; exact ⟨fs, cs, h1, h2.mono fun _ _ h => ⟨n, h⟩, h3.mono fun _ _ h => ⟨n, h⟩⟩,
   fun ⟨fs, cs, h1, h2, h3⟩ => let ⟨n, hn⟩ := RL_lift h2; let ⟨n', hn'⟩ := RL_lift h3; ⟨max n n' + 1, fs, cs, h1, hn.mono fun _ _ => Rep_le (Nat.le_max_left _ _), hn'.mono fun _ _ => Rep_le (Nat.le_max_right _ _)⟩⟩
theorem R_yld {id : Nat} {v : Value} : R P N z (.yld id) v ↔ id < z.m.blks.length ∧ v = .func (.yield (z.ρ id)) #[] #[] :=
  ⟨fun ⟨n, h⟩ => by cases n with | zero => exact h.elim | succ n => exact h, fun h => ⟨1, h⟩⟩
theorem R_nilm {v : Value} : R P N z .nilm v ↔ v = .map none := ⟨fun ⟨n, h⟩ => by cases n with | zero => exact h.elim | succ n => exact h, fun h => ⟨1, h⟩⟩
theorem R_itr {id : Nat} {v : Value} : R P N z (.itr id) v ↔ id < z.m.blks.length ∧ v = .pointer (some ⟨z.ρ id, 0, none⟩) :=
  ⟨fun ⟨n, h⟩ => by cases n with | zero => exact h.elim | succ n => exact h, fun h => ⟨1, h⟩⟩
theorem R_aps {id ix off n : Nat} {v : Value} : R P N z (.aps id ix off n) v ↔ id < z.m.blks.length ∧ (∃ a l c, v = .slice a l c) ∧ ∀ es sz, z.m.blks[id]? = some (.live es sz) → v = .slice (some ⟨z.ρ id, ix * sz + off, none⟩) n n :=
  ⟨fun ⟨n, h⟩ => by cases n with | zero => exact h.elim | succ n => exact h, fun h => ⟨1, h⟩⟩
theorem R_mp {id : Nat} {v : Value} : R P N z (.mp id) v ↔ id < z.m.blks.length ∧ v = .map (some (z.ρ id)) :=
  ⟨fun ⟨n, h⟩ => by cases n with | zero => exact h.elim | succ n => exact h, fun h => ⟨1, h⟩⟩

/-! ### What lasts -/
structure Tr (P : Program) (N : Nat → Nat → Prop) (z z' : Z) : Prop where
  size : z.h.size ≤ z'.h.size
  cell : ∀ b o u, cellAt z.h b o = some u → ¬X P N z b o → cellAt z'.h b o = some u
  forb : ∀ b o, b < z.h.size → X P N z' b o → X P N z b o
  other : ∀ (b : Nat), b < z.h.size → ¬Own z b → z'.h[b]? = z.h[b]?
  own : ∀ b, b < z.h.size → Own z' b → Own z b
  blks : z.m.blks.length ≤ z'.m.blks.length
  rho : ∀ id, id < z.m.blks.length → z'.ρ id = z.ρ id
  live : ∀ id, id < z.m.blks.length → ∀ es sz, z'.m.blks[id]? = some (.live es sz) → (∃ es0, z.m.blks[id]? = some (.live es0 sz)) ∧ csize z'.h (z.ρ id) = csize z.h (z.ρ id)
  toks : z.m.toks.length ≤ z'.m.toks.length
  tok : ∀ t, t < z.m.toks.length → ∀ n T, z'.m.toks[t]? = some (n, T) → ∃ n0, z.m.toks[t]? = some (n0, T) ∧ n0 ≤ n ∧ (n0 = n → z'.τ t = z.τ t ∧ csize z'.h (z.τ t) = csize z.h (z.τ t))
  loops : ∀ (b : Nat) (l : Loop), z.h[b]? = some (.loop l) → ∃ l' : Loop, z'.h[b]? = some (.loop l')

theorem cellAt_lt {h : Array Obj} {b o : Nat} {u : Value} (e : cellAt h b o = some u) : b < h.size := by
  unfold cellAt at e
  split at e
  · rename_i c t f hb; exact (Array.getElem?_eq_some_iff.1 hb).1
  · cases e

theorem Tr.refl (z : Z) : Tr P N z z where
  size := Nat.le_refl _
  cell := fun _ _ _ h _ => h
  forb := fun _ _ _ h => h
  other := fun _ _ _ => rfl
  own := fun _ _ h => h
  blks := Nat.le_refl _
  rho := fun _ _ => rfl
  live := fun _ _ es _ h => ⟨⟨es, h⟩, rfl⟩
  toks := Nat.le_refl _
  tok := fun _ _ n _ h => ⟨n, h, Nat.le_refl _, fun _ => ⟨rfl, rfl⟩⟩
  loops := fun _ l h => ⟨l, h⟩

theorem Tr.trans {z1 z2 z3 : Z} (h : Tr P N z1 z2) (k : Tr P N z2 z3) : Tr P N z1 z3 where
  size := Nat.le_trans h.size k.size
  cell := fun b o u e hx => k.cell b o u (h.cell b o u e hx) fun hx' => hx (h.forb b o (cellAt_lt e) hx')
  forb := fun b o hb hx => h.forb b o hb (k.forb b o (Nat.lt_of_lt_of_le hb h.size) hx)
  other := fun b hb ho => (k.other b (Nat.lt_of_lt_of_le hb h.size) fun h' => ho (h.own b hb h')).trans (h.other b hb ho)
  own := fun b hb ho => h.own b hb (k.own b (Nat.lt_of_lt_of_le hb h.size) ho)
  blks := Nat.le_trans h.blks k.blks
  rho := fun id hid => (k.rho id (Nat.lt_of_lt_of_le hid h.blks)).trans (h.rho id hid)
  live := fun id hid es sz e => by
    obtain ⟨⟨es2, e2⟩, hc⟩ := k.live id (Nat.lt_of_lt_of_le hid h.blks) es sz e
    obtain ⟨⟨es1, e1⟩, hc'⟩ := h.live id hid es2 sz e2
    rw [h.rho id hid] at hc
    exact ⟨⟨es1, e1⟩, hc.trans hc'⟩
  toks := Nat.le_trans h.toks k.toks
  tok := fun t ht n T e => by
    obtain ⟨n2, e2, hn2, hc2⟩ := k.tok t (Nat.lt_of_lt_of_le ht h.toks) n T e
    obtain ⟨n1, e1, hn1, hc1⟩ := h.tok t ht n2 T e2
    refine ⟨n1, e1, Nat.le_trans hn1 hn2, fun hn => ?_⟩
    obtain ⟨a, b⟩ := hc1 (by omega)
    obtain ⟨c, d⟩ := hc2 (by omega)
    rw [a] at c d
    exact ⟨c, d.trans b⟩
  loops := fun b l e => let ⟨l', e'⟩ := h.loops b l e; k.loops b l' e'

theorem TkRep.step (h : Tr P N z z') {n st cap : Nat} {a : Option Addr} {tk : Tk} (e : TkRep z n st a cap tk) : TkRep z' n st a cap tk := by
  cases tk with
  | unk => trivial
  | tight => exact e
  | _ =>
    rename_i t
    obtain ⟨ht, e⟩ := e
    refine ⟨Nat.lt_of_lt_of_le ht h.toks, fun k T hk => ?_⟩
    obtain ⟨k0, hk0, hle, hc⟩ := h.tok t ht k T hk
    obtain ⟨h1, h2⟩ := e k0 T hk0
    refine ⟨Nat.le_trans h1 hle, fun hn => ?_⟩
    obtain ⟨h3, h4⟩ := hc (by omega)
    obtain ⟨h5, h6⟩ := h2 (by omega)
    rw [h3, h4]
    exact ⟨h5, h6⟩
theorem AtI.step (h : Tr P N z z') {R R' : AV → Value → Prop} (hr : ∀ a u, R a u → R' a u) {e : AV} {b o : Nat} (k : AtI P N z R e b o) : AtI P N z' R' e b o :=
  fun j a hj => let ⟨u, h1, h2, h2', h3⟩ := k j a hj; ⟨u, h.cell _ _ _ h1 h2, fun hx => h2 (h.forb _ _ (cellAt_lt h1) hx), h2', hr _ _ h3⟩
theorem Rep_step (h : Tr P N z z') : ∀ {n : Nat} {a : AV} {v : Value}, Rep P N z n a v → Rep P N z' n a v
  | 0, _, _, e => e.elim
  | n + 1, a, v, e => by
    have ih : ∀ a u, Rep P N z n a u → Rep P N z' n a u := fun _ _ e => Rep_step h e
    cases a with
    | undef => trivial
    | bool b => exact e
    | int k i => exact e
    | str s => exact e
    | nilf => exact e
    | nilp => exact e
    | nilm => exact e
    | agg cs => obtain ⟨us, hv, hr⟩ := e; exact ⟨us, hv, hr.mono ih⟩
    | tup cs => obtain ⟨us, hv, hr⟩ := e; exact ⟨us, hv, hr.mono ih⟩
    | sl es tk =>
      obtain ⟨a, cap, st, hv, h1, h1', h2, h3, h4, h5⟩ := e
      exact ⟨a, cap, st, hv, h1, h1', h2, h3, fun i e he => let ⟨b, o, h6, h7⟩ := h4 i e he; ⟨b, o, h6, h7.step h ih⟩, h5.step h⟩
    | ref id off len =>
      obtain ⟨hid, hs, e⟩ := e
      refine ⟨Nat.lt_of_lt_of_le hid h.blks, hs, fun es sz hb => ?_⟩
      obtain ⟨⟨es0, h0⟩, hc⟩ := h.live id hid es sz hb
      obtain ⟨cap, h1, h2, h3, h4⟩ := e es0 sz h0
      rw [h.rho id hid]
      exact ⟨cap, h1, h2, h3, h4.trans hc.symm⟩
    | ptr id ix off | aps id ix off q =>
      obtain ⟨hid, hs, e⟩ := e
      refine ⟨Nat.lt_of_lt_of_le hid h.blks, hs, fun es sz hb => ?_⟩
      obtain ⟨⟨es0, h0⟩, hc⟩ := h.live id hid es sz hb
      rw [h.rho id hid]
      exact e es0 sz h0
    | pv x off => obtain ⟨b, o, hv, h1⟩ := e; exact ⟨b, o, hv, h1.step h ih⟩
    | fn f first cap => obtain ⟨fs, cs, hv, h1, h2⟩ := e; exact ⟨fs, cs, hv, h1.mono ih, h2.mono ih⟩
    | yld id => obtain ⟨hid, e⟩ := e; exact ⟨Nat.lt_of_lt_of_le hid h.blks, by rw [h.rho id hid]; exact e⟩
    | mp id => obtain ⟨hid, e⟩ := e; exact ⟨Nat.lt_of_lt_of_le hid h.blks, by rw [h.rho id hid]; exact e⟩
    | itr id => obtain ⟨hid, e⟩ := e; exact ⟨Nat.lt_of_lt_of_le hid h.blks, by rw [h.rho id hid]; exact e⟩
theorem R_step (h : Tr P N z z') {a : AV} {v : Value} (e : R P N z a v) : R P N z' a v := let ⟨n, e⟩ := e; ⟨n, Rep_step h e⟩
/-- A map's entries. -/
def MpOK (P : Program) (N : Nat → Nat → Prop) (z : Z) (ek : EK) (kvs : List (AV × AV)) (es : List MapEntry) (c : Nat) : Prop :=
  (kvs.length = es.length ∧ (∀ e ∈ es, e.born < c) ∧ (es.map (·.born)).Nodup) ∧ ∀ (i : Nat) p e, kvs[i]? = some p → es[i]? = some e → isKey ek p.1 = true ∧ R P N z p.1 e.key ∧ R P N z p.2 e.val
theorem MpOK.step (h : Tr P N z z') {ek : EK} {kvs : List (AV × AV)} {es : List MapEntry} {c : Nat} (k : MpOK P N z ek kvs es c) : MpOK P N z' ek kvs es c :=
  ⟨k.1, fun i p e h1 h2 => let ⟨a, b, c⟩ := k.2 i p e h1 h2; ⟨a, R_step h b, R_step h c⟩⟩
def EK.isN : EK → Bool
  | .n _ => true
  | _ => false
/-- The same, in some order. -/
def MpP (P : Program) (N : Nat → Nat → Prop) (z : Z) (ek : EK) (kvs : List (AV × AV)) (es : List MapEntry) (c : Nat) : Prop :=
  ∃ es', es'.Perm es ∧ (ek.isN = false → es' = es) ∧ MpOK P N z ek kvs es' c
theorem MpP.step (h : Tr P N z z') {ek : EK} {kvs : List (AV × AV)} {es : List MapEntry} {c : Nat} (k : MpP P N z ek kvs es c) : MpP P N z' ek kvs es c :=
  let ⟨es', a, b, d⟩ := k; ⟨es', a, b, d.step h⟩
theorem MpP.map {N' : Nat → Nat → Prop} (hR : ∀ {a : AV} {v : Value}, R P N z a v → R P N' z' a v) {ek : EK} {kvs : List (AV × AV)} {es : List MapEntry} {c : Nat} (k : MpP P N z ek kvs es c) : MpP P N' z' ek kvs es c :=
  let ⟨es', a, b, d⟩ := k; ⟨es', a, b, d.1, fun i p e h1 h2 => let ⟨a, b, c⟩ := d.2 i p e h1 h2; ⟨a, hR b, hR c⟩⟩
end
end Go.Ab
end

section
/-
  A state that stands for a world, and the steps that keep it so: new memory, a store.
-/
namespace Go.Ab

/-- A program, its tables, and how it is run. -/
structure Cx where
  P : Program
  G : Nat → Option AV
  md : FuncId → Md
  own : FuncId → Ow
  ft : FuncId → Option AFn

def Cx.TC (C : Cx) (c : Code) (nt : Nat) (a : ACode) : Prop := ∃ ow, tr C.P C.G ow C.md nt c = some a

def ExCode : Ex → Code → Prop
  | .nxt, _ => False
  | .out id, c => c = .exit id
  | .ret, c => c = .ret

structure Good (C : Cx) (N : Nat → Nat → Prop) (z : Z) : Prop where
  live : ∀ (id : Nat) es sz, z.m.blks[id]? = some (.live es sz) → ∃ cs T, z.h[z.ρ id]? = some (.cells cs T (0, 0)) ∧ es.length * sz ≤ cs.size ∧
    ∀ (i : Nat) e, es[i]? = some e → e.cells.length = sz ∧ ∀ (j : Nat) a, e.cells[j]? = some a → ∃ u, cs[i * sz + j]? = some u ∧ u.oneCell' = true ∧ R C.P N z a u
  tok : ∀ (t : Nat) n T, z.m.toks[t]? = some (n, T) → ∃ cs cap, z.h[z.τ t]? = some (.cells cs T (0, 0)) ∧ cs.size = cap * tsz C.P T ∧ n ≤ cap ∧ cap ≤ maxLen
  rr : ∀ (id id' : Nat) k k', z.m.blks[id]? = some k → z.m.blks[id']? = some k' → k ≠ .dead → k' ≠ .dead → z.ρ id = z.ρ id' → id = id'
  rt : ∀ (id : Nat) k (t : Nat) x, z.m.blks[id]? = some k → k ≠ .dead → z.m.toks[t]? = some x → z.ρ id ≠ z.τ t
  tt : ∀ (t t' : Nat) x x', z.m.toks[t]? = some x → z.m.toks[t']? = some x' → z.τ t = z.τ t' → t = t'
  nl : ∀ (id : Nat) es sz, z.m.blks[id]? = some (.live es sz) → ∀ o, ¬N (z.ρ id) o
  nt : ∀ (t : Nat) n T, z.m.toks[t]? = some (n, T) → ∀ o, n * tsz C.P T ≤ o → ¬N (z.τ t) o
  no : ∀ b o, N b o → b < z.h.size
  lp : ∀ (id : Nat) env ps asg body rdy pend, z.m.blks[id]? = some (.lp env ps asg body rdy pend) → ∃ L : Loop, z.h[z.ρ id]? = some (.loop L) ∧ L.params.toList = ps ∧
    C.TC L.assign L.tmps.size asg ∧ C.TC L.body L.tmps.size body ∧ (rdy = true → L.state = .ready) ∧ L.state ≠ .exhausted ∧
    (∀ t, R C.P N z (env t) (L.tmps.getD t undef)) ∧ (∀ t ∈ ps, t < L.tmps.size) ∧ (match pend with | none => L.pending = none | some e => L.state ≠ .busy ∧ ∃ c, L.pending = some c ∧ ExCode e c)
  glob : ∀ g e, C.G g = some e → R C.P N z (.pv e 0) (.pointer (some ⟨g, 0, none⟩))
  mp : ∀ (id : Nat) kvs ek, z.m.blks[id]? = some (.mp kvs ek) → ∃ es clock, z.h[z.ρ id]? = some (.map es clock) ∧ MpP C.P N z ek kvs es.toList clock

section
variable {C : Cx} {N : Nat → Nat → Prop} {z : Z}

theorem Good.rho_lt (hG : Good C N z) {id : Nat} {k : Blk} (h : z.m.blks[id]? = some k) (hk : k ≠ .dead) : z.ρ id < z.h.size := by
  cases k with
  | live es sz => obtain ⟨cs, T, h1, _⟩ := hG.live id es sz h; exact (Array.getElem?_eq_some_iff.1 h1).1
  | dead => exact absurd rfl hk
  | lp env ps asg body rdy pend => obtain ⟨L, h1, _⟩ := hG.lp id env ps asg body rdy pend h; exact (Array.getElem?_eq_some_iff.1 h1).1
  | mp kvs ek => obtain ⟨es, clock, h1, _⟩ := hG.mp id kvs ek h; exact (Array.getElem?_eq_some_iff.1 h1).1
theorem Good.tau_lt (hG : Good C N z) {t : Nat} {x : Nat × Nat} (h : z.m.toks[t]? = some x) : z.τ t < z.h.size := by
  obtain ⟨n, T⟩ := x
  obtain ⟨cs, cap, h1, _⟩ := hG.tok t n T h; exact (Array.getElem?_eq_some_iff.1 h1).1
theorem Good.own_lt (hG : Good C N z) {b : Nat} (h : Own z b) : b < z.h.size := by
  rcases h with ⟨id, k, h1, h2, rfl⟩ | ⟨t, x, h1, rfl⟩
  · exact hG.rho_lt h1 h2
  · exact hG.tau_lt h1
theorem cellAt_push {h : Array Obj} {o : Obj} {b j : Nat} (hb : b < h.size) : cellAt (h.push o) b j = cellAt h b j := by
  unfold cellAt; rw [Array.getElem?_push_lt hb, Array.getElem?_eq_getElem hb]
theorem csize_push {h : Array Obj} {o : Obj} {b : Nat} (hb : b < h.size) : csize (h.push o) b = csize h b := by
  unfold csize; rw [Array.getElem?_push_lt hb, Array.getElem?_eq_getElem hb]
theorem get_push_lt {h : Array Obj} {o : Obj} {b : Nat} (hb : b < h.size) : (h.push o)[b]? = h[b]? := by
  rw [Array.getElem?_push_lt hb, Array.getElem?_eq_getElem hb]

theorem get_snoc {α : Type} {l : List α} {x y : α} {i : Nat} (h : (l ++ [x])[i]? = some y) : (l[i]? = some y ∧ i < l.length) ∨ (i = l.length ∧ y = x) := by
  by_cases hi : i < l.length
  · rw [List.getElem?_append_left hi] at h; exact .inl ⟨h, hi⟩
  · rw [List.getElem?_append_right (by omega)] at h
    cases hd : i - l.length with
    | zero => rw [hd] at h; simp at h; exact .inr ⟨by omega, h.symm⟩
    | succ n => rw [hd] at h; simp at h

/-- The state behind new memory. -/
def Z.grow (z : Z) (o : Obj) (k : Blk) : Z := ⟨z.h.push o, fun i => if i = z.m.blks.length then z.h.size else z.ρ i, z.τ, { z.m with blks := z.m.blks ++ [k] }⟩
theorem grow_tr (hG : Good C N z) (o : Obj) (k : Blk) : Tr C.P N z (z.grow o k) where
  size := by simp [Z.grow]
  cell := fun b j u h _ => by show cellAt (z.h.push o) b j = _; rw [cellAt_push (cellAt_lt h)]; exact h
  forb := fun b j hb hx => by
    rcases hx with hx | ⟨id, es, sz, h1, h2⟩ | ⟨t, n, T, h1, h2, h3⟩
    · exact .inl hx
    · rcases get_snoc h1 with ⟨h1, hi⟩ | ⟨rfl, _⟩
      · refine .inr (.inl ⟨id, es, sz, h1, ?_⟩)
        simp only [Z.grow] at h2; rw [if_neg (by omega)] at h2; exact h2
      · simp only [Z.grow, if_true] at h2; omega
    · exact .inr (.inr ⟨t, n, T, h1, h2, h3⟩)
  other := fun b hb _ => get_push_lt hb
  own := fun b hb ho => by
    rcases ho with ⟨id, k', h1, h2, h3⟩ | ⟨t, x, h1, h2⟩
    · rcases get_snoc h1 with ⟨h1, hi⟩ | ⟨rfl, _⟩
      · refine .inl ⟨id, k', h1, h2, ?_⟩
        simp only [Z.grow] at h3; rw [if_neg (by omega)] at h3; exact h3
      · simp only [Z.grow, if_true] at h3; omega
    · exact .inr ⟨t, x, h1, h2⟩
  blks := by simp [Z.grow]
  rho := fun id hid => by simp only [Z.grow]; rw [if_neg (by omega)]
  live := fun id hid es sz h => by
    rcases get_snoc h with ⟨h1, _⟩ | ⟨rfl, _⟩
    · refine ⟨⟨es, h1⟩, csize_push (hG.rho_lt h1 (by simp))⟩
    · omega
  toks := Nat.le_refl _
  tok := fun t _ n T h => ⟨n, h, Nat.le_refl _, fun _ => ⟨rfl, csize_push (hG.tau_lt h)⟩⟩
  loops := fun b l h => ⟨l, by show (z.h.push o)[b]? = _; rw [get_push_lt (Array.getElem?_eq_some_iff.1 h).1]; exact h⟩

theorem grow_good (hG : Good C N z) {o : Obj} {k : Blk}
    (hl : ∀ es sz, k = .live es sz → ∃ cs T, o = .cells cs T (0, 0) ∧ es.length * sz ≤ cs.size ∧
      ∀ (i : Nat) e, es[i]? = some e → e.cells.length = sz ∧ ∀ (j : Nat) a, e.cells[j]? = some a → ∃ u, cs[i * sz + j]? = some u ∧ u.oneCell' = true ∧ R C.P N z a u)
    (hp : ∀ env ps asg body rdy pend, k = .lp env ps asg body rdy pend → ∃ L : Loop, o = .loop L ∧ L.params.toList = ps ∧ C.TC L.assign L.tmps.size asg ∧ C.TC L.body L.tmps.size body ∧
      (rdy = true → L.state = .ready) ∧ L.state ≠ .exhausted ∧ (∀ t, R C.P N z (env t) (L.tmps.getD t undef)) ∧ (∀ t ∈ ps, t < L.tmps.size) ∧ (match pend with | none => L.pending = none | some e => L.state ≠ .busy ∧ ∃ c, L.pending = some c ∧ ExCode e c))
    (hm : ∀ kvs ek, k = .mp kvs ek → ∃ es clock, o = .map es clock ∧ MpP C.P N z ek kvs es.toList clock := by intro _ _ h; cases h) :
    Good C N (z.grow o k) := by
  have hT := grow_tr (N := N) hG o k
  have hnew : (z.h.push o)[z.h.size]? = some o := by simp
  have hrn : (z.grow o k).ρ z.m.blks.length = z.h.size := by simp [Z.grow]
  constructor
  · intro id es sz h
    rcases get_snoc h with ⟨h1, hi⟩ | ⟨rfl, hk⟩
    · obtain ⟨cs, T, h2, h3, h4⟩ := hG.live id es sz h1
      refine ⟨cs, T, ?_, h3, fun i e he => ⟨(h4 i e he).1, fun j a ha => ?_⟩⟩
      · rw [hT.rho id hi]; show (z.h.push o)[z.ρ id]? = _; rw [get_push_lt (hG.rho_lt h1 (by simp))]; exact h2
      · obtain ⟨u, h5, h6, h7⟩ := (h4 i e he).2 j a ha
        exact ⟨u, h5, h6, R_step hT h7⟩
    · obtain ⟨cs, T, rfl, h3, h4⟩ := hl es sz hk.symm
      refine ⟨cs, T, ?_, h3, fun i e he => ⟨(h4 i e he).1, fun j a ha => ?_⟩⟩
      · rw [hrn]; exact hnew
      · obtain ⟨u, h5, h6, h7⟩ := (h4 i e he).2 j a ha
        exact ⟨u, h5, h6, R_step hT h7⟩
  · intro t n T h
    obtain ⟨cs, cap, h1, h2⟩ := hG.tok t n T h
    exact ⟨cs, cap, by show (z.h.push o)[z.τ t]? = _; rw [get_push_lt (hG.tau_lt h)]; exact h1, h2⟩
  · intro id id' k1 k2 h1 h2 d1 d2 he
    rcases get_snoc h1 with ⟨g1, hi⟩ | ⟨hi, e1⟩ <;> rcases get_snoc h2 with ⟨g2, hi'⟩ | ⟨hi', e2⟩
    · rw [hT.rho id hi, hT.rho id' hi'] at he; exact hG.rr id id' k1 k2 g1 g2 d1 d2 he
    · subst hi'; rw [hT.rho id hi, hrn] at he; have := hG.rho_lt g1 d1; omega
    · subst hi; rw [hT.rho id' hi', hrn] at he; have := hG.rho_lt g2 d2; omega
    · omega
  · intro id k1 t x h1 d1 h2 he
    rcases get_snoc h1 with ⟨g1, hi⟩ | ⟨hi, e1⟩
    · rw [hT.rho id hi] at he; exact hG.rt id k1 t x g1 d1 h2 he
    · subst hi; rw [hrn] at he; have := hG.tau_lt h2; simp only [Z.grow] at he; omega
  · intro t t' x x' h1 h2 he; exact hG.tt t t' x x' h1 h2 he
  · intro id es sz h o' hn
    rcases get_snoc h with ⟨h1, hi⟩ | ⟨rfl, _⟩
    · rw [hT.rho id hi] at hn; exact hG.nl id es sz h1 o' hn
    · rw [hrn] at hn; have := hG.no _ _ hn; omega
  · intro t n T h o' ho hn; exact hG.nt t n T h o' ho hn
  · intro b o' hn; have := hG.no b o' hn; simp [Z.grow]; omega
  · intro id env ps asg body rdy pend h
    rcases get_snoc h with ⟨h1, hi⟩ | ⟨rfl, hk⟩
    · obtain ⟨L, h2, h3, h4, h5, h6, h6', h7, h8, h9⟩ := hG.lp id env ps asg body rdy pend h1
      refine ⟨L, ?_, h3, h4, h5, h6, h6', fun t => R_step hT (h7 t), h8, h9⟩
      rw [hT.rho id hi]; show (z.h.push o)[z.ρ id]? = _; rw [get_push_lt (hG.rho_lt h1 (by simp))]; exact h2
    · obtain ⟨L, rfl, h3, h4, h5, h6, h6', h7, h8, h9⟩ := hp env ps asg body rdy pend hk.symm
      exact ⟨L, by rw [hrn]; exact hnew, h3, h4, h5, h6, h6', fun t => R_step hT (h7 t), h8, h9⟩
  · intro g e h; exact R_step hT (hG.glob g e h)
  · intro id kvs ek h
    rcases get_snoc h with ⟨h1, hi⟩ | ⟨rfl, hk⟩
    · obtain ⟨es, clock, h2, h3⟩ := hG.mp id kvs ek h1
      refine ⟨es, clock, ?_, h3.step hT⟩
      rw [hT.rho id hi]; show (z.h.push o)[z.ρ id]? = _; rw [get_push_lt (hG.rho_lt h1 (by simp))]; exact h2
    · obtain ⟨es, clock, rfl, h3⟩ := hm kvs ek hk.symm
      exact ⟨es, clock, by rw [hrn]; exact hnew, h3.step hT⟩
end
end Go.Ab
end

section
/-
  A block that is written; a token whose mark moves.
-/
namespace Go.Ab
section
variable {C : Cx} {N : Nat → Nat → Prop} {z : Z}

theorem get_set {α : Type} {l : List α} {i j : Nat} {x y : α} (h : (l.set i x)[j]? = some y) : (j = i ∧ y = x ∧ i < l.length) ∨ (j ≠ i ∧ l[j]? = some y) := by
  by_cases hj : j = i
  · subst hj
    by_cases hl : j < l.length
    · rw [List.getElem?_set_self hl] at h; exact .inl ⟨rfl, (Option.some.inj h).symm, hl⟩
    · rw [List.getElem?_eq_none (by simp; omega)] at h; cases h
  · rw [List.getElem?_set_ne (Ne.symm hj)] at h; exact .inr ⟨hj, h⟩

/-- A block becomes another one, and its object, too. -/
def Z.putB (z : Z) (id : Nat) (k : Blk) (o : Obj) : Z := ⟨z.h.setIfInBounds (z.ρ id) o, z.ρ, z.τ, { z.m with blks := z.m.blks.set id k }⟩
theorem putB_other {id b : Nat} {k : Blk} {o : Obj} (h : b ≠ z.ρ id) : (z.putB id k o).h[b]? = z.h[b]? := by
  simp only [Z.putB]; rw [Array.getElem?_setIfInBounds_ne (Ne.symm h)]
theorem putB_same {id : Nat} {k : Blk} {o : Obj} (h : z.ρ id < z.h.size) : (z.putB id k o).h[z.ρ id]? = some o := by
  simp only [Z.putB]; simp [h]
theorem cellAt_other {h h' : Array Obj} {b : Nat} (e : h'[b]? = h[b]?) (j : Nat) : cellAt h' b j = cellAt h b j := by unfold cellAt; rw [e]
theorem csize_other {h h' : Array Obj} {b : Nat} (e : h'[b]? = h[b]?) : csize h' b = csize h b := by unfold csize; rw [e]

theorem putB_tr (hG : Good C N z) {id : Nat} {es : List AV} {sz : Nat} (hid : z.m.blks[id]? = some (.live es sz)) {cs cs' : Array Value} {T : TypeId} (hcs : z.h[z.ρ id]? = some (.cells cs T (0, 0)))
    (hsz : cs'.size = cs.size) {k : Blk} (hk : k = .dead ∨ ∃ es', k = .live es' sz) : Tr C.P N z (z.putB id k (.cells cs' T (0, 0))) where
  size := by simp [Z.putB]
  cell := fun b j u h hx => by
    have hb : b ≠ z.ρ id := fun e => hx (.inr (.inl ⟨id, es, sz, hid, e.symm⟩))
    rw [cellAt_other (putB_other hb)]; exact h
  forb := fun b j hb hx => by
    rcases hx with hx | ⟨id', es', sz', h1, h2⟩ | ⟨t, n, T', h1, h2, h3⟩
    · exact .inl hx
    · rcases get_set h1 with ⟨rfl, _, _⟩ | ⟨_, h1⟩
      · exact .inr (.inl ⟨id', es, sz, hid, h2⟩)
      · exact .inr (.inl ⟨id', es', sz', h1, h2⟩)
    · exact .inr (.inr ⟨t, n, T', h1, h2, h3⟩)
  other := fun b _ ho => putB_other fun e => ho (.inl ⟨id, _, hid, by simp, e.symm⟩)
  own := fun b _ ho => by
    rcases ho with ⟨id', k', h1, h2, h3⟩ | ⟨t, x, h1, h2⟩
    · rcases get_set h1 with ⟨rfl, _, _⟩ | ⟨_, h1⟩
      · exact .inl ⟨id', _, hid, by simp, h3⟩
      · exact .inl ⟨id', k', h1, h2, h3⟩
    · exact .inr ⟨t, x, h1, h2⟩
  blks := by simp [Z.putB]
  rho := fun _ _ => rfl
  live := fun id' _ es' sz' h => by
    rcases get_set h with ⟨rfl, hk', _⟩ | ⟨hne, h1⟩
    · rcases hk with rfl | ⟨es2, rfl⟩
      · cases hk'
      · cases hk'
        refine ⟨⟨es, hid⟩, ?_⟩
        unfold csize; rw [putB_same (hG.rho_lt hid (by simp)), hcs]; exact hsz
    · refine ⟨⟨es', h1⟩, csize_other (putB_other fun e => hne (hG.rr id' id _ _ h1 hid (by simp) (by simp) e))⟩
  toks := Nat.le_refl _
  tok := fun t _ n T' h => ⟨n, h, Nat.le_refl _, fun _ => ⟨rfl, csize_other (putB_other fun e => hG.rt id _ t _ hid (by simp) h e.symm)⟩⟩
  loops := fun b l h => by
    have hb : b ≠ z.ρ id := fun e => by rw [e, hcs] at h; cases h
    exact ⟨l, (putB_other hb).trans h⟩

theorem putB_good (hG : Good C N z) {id : Nat} {es : List AV} {sz : Nat} (hid : z.m.blks[id]? = some (.live es sz)) {cs cs' : Array Value} {T : TypeId} (hcs : z.h[z.ρ id]? = some (.cells cs T (0, 0)))
    (hsz : cs'.size = cs.size) {k : Blk} (hk : k = .dead ∨ ∃ es', k = .live es' sz ∧ es'.length * sz ≤ cs'.size ∧
      ∀ (i : Nat) e, es'[i]? = some e → e.cells.length = sz ∧ ∀ (j : Nat) a, e.cells[j]? = some a → ∃ u, cs'[i * sz + j]? = some u ∧ u.oneCell' = true ∧ R C.P N z a u) :
    Good C N (z.putB id k (.cells cs' T (0, 0))) := by
  have hk' : k = .dead ∨ ∃ es', k = .live es' sz := hk.imp (fun h => h) fun ⟨es', h, _⟩ => ⟨es', h⟩
  have hT := putB_tr (N := N) hG hid hcs hsz hk'
  have hlt := hG.rho_lt hid (by simp)
  constructor
  · intro id' es' sz' h
    rcases get_set h with ⟨rfl, he, _⟩ | ⟨hne, h1⟩
    · rcases hk with rfl | ⟨es2, rfl, h2, h3⟩
      · cases he
      · cases he
        exact ⟨cs', T, putB_same hlt, h2, fun i e he => ⟨(h3 i e he).1, fun j a ha => let ⟨u, h4, h5, h6⟩ := (h3 i e he).2 j a ha; ⟨u, h4, h5, R_step hT h6⟩⟩⟩
    · obtain ⟨cs2, T2, h2, h3, h4⟩ := hG.live id' es' sz' h1
      refine ⟨cs2, T2, (putB_other fun e => hne (hG.rr id' id _ _ h1 hid (by simp) (by simp) e)).trans h2, h3, fun i e he => ⟨(h4 i e he).1, fun j a ha => ?_⟩⟩
      obtain ⟨u, h5, h6, h7⟩ := (h4 i e he).2 j a ha
      exact ⟨u, h5, h6, R_step hT h7⟩
  · intro t n T' h
    obtain ⟨cs2, cap, h1, h2⟩ := hG.tok t n T' h
    exact ⟨cs2, cap, (putB_other fun e => hG.rt id _ t _ hid (by simp) h e.symm).trans h1, h2⟩
  · intro i1 i2 k1 k2 h1 h2 d1 d2 he
    have f : ∀ {i k'}, (z.putB id k (.cells cs' T (0, 0))).m.blks[i]? = some k' → ∃ k2, z.m.blks[i]? = some k2 ∧ (k' ≠ Blk.dead → k2 ≠ Blk.dead) := fun {i k'} h => by
      rcases get_set h with ⟨rfl, _, _⟩ | ⟨_, h⟩
      · exact ⟨_, hid, fun _ => by simp⟩
      · exact ⟨k', h, fun h => h⟩
    obtain ⟨k3, g1, e1⟩ := f h1
    obtain ⟨k4, g2, e2⟩ := f h2
    exact hG.rr i1 i2 k3 k4 g1 g2 (e1 d1) (e2 d2) he
  · intro i1 k1 t x h1 d1 h2 he
    rcases get_set h1 with ⟨rfl, _, _⟩ | ⟨_, h1⟩
    · exact hG.rt i1 _ t x hid (by simp) h2 he
    · exact hG.rt i1 k1 t x h1 d1 h2 he
  · intro t t' x x' h1 h2 he; exact hG.tt t t' x x' h1 h2 he
  · intro i1 es' sz' h o hn
    rcases get_set h with ⟨rfl, _, _⟩ | ⟨_, h1⟩
    · exact hG.nl i1 es sz hid o hn
    · exact hG.nl i1 es' sz' h1 o hn
  · intro t n T' h o ho hn; exact hG.nt t n T' h o ho hn
  · intro b o hn; have := hG.no b o hn; simp [Z.putB]; exact this
  · intro i1 env ps asg body rdy pend h
    rcases get_set h with ⟨rfl, he, _⟩ | ⟨hne, h1⟩
    · rcases hk with rfl | ⟨es2, rfl, _⟩ <;> cases he
    · obtain ⟨L, h2, h3, h4, h5, h6, h6', h7, h8, h9⟩ := hG.lp i1 env ps asg body rdy pend h1
      exact ⟨L, (putB_other fun e => hne (hG.rr i1 id _ _ h1 hid (by simp) (by simp) e)).trans h2, h3, h4, h5, h6, h6', fun t => R_step hT (h7 t), h8, h9⟩
  · intro g e h; exact R_step hT (hG.glob g e h)
  · intro i1 kvs ek h
    rcases get_set h with ⟨rfl, he, _⟩ | ⟨hne, h1⟩
    · rcases hk with rfl | ⟨es2, rfl, _⟩ <;> cases he
    · obtain ⟨es, clock, h2, h3⟩ := hG.mp i1 kvs ek h1
      exact ⟨es, clock, (putB_other fun e => hne (hG.rr i1 id _ _ h1 hid (by simp) (by simp) e)).trans h2, h3.step hT⟩

/-- A value's row is written behind its mark, which moves. -/
def Z.putT (z : Z) (t n T : Nat) (o : Obj) : Z := ⟨z.h.setIfInBounds (z.τ t) o, z.ρ, z.τ, { z.m with toks := z.m.toks.set t (n, T) }⟩
theorem putT_other {t b n T : Nat} {o : Obj} (h : b ≠ z.τ t) : (z.putT t n T o).h[b]? = z.h[b]? := by
  simp only [Z.putT]; rw [Array.getElem?_setIfInBounds_ne (Ne.symm h)]
theorem putT_same {t n T : Nat} {o : Obj} (h : z.τ t < z.h.size) : (z.putT t n T o).h[z.τ t]? = some o := by
  simp only [Z.putT]; simp [h]
theorem putT_tr (hG : Good C N z) {t n n' T : Nat} (ht : z.m.toks[t]? = some (n, T)) {cs cs' : Array Value} (hcs : z.h[z.τ t]? = some (.cells cs T (0, 0))) (hsz : cs'.size = cs.size) (hn : n ≤ n')
    (hold : ∀ o, o < n * tsz C.P T → cs'[o]? = cs[o]?) : Tr C.P N z (z.putT t n' T (.cells cs' T (0, 0))) where
  size := by simp [Z.putT]
  cell := fun b j u h hx => by
    by_cases hb : b = z.τ t
    · subst hb
      have hj : j < n * tsz C.P T := by
        rcases Nat.lt_or_ge j (n * tsz C.P T) with h | h
        · exact h
        · exact absurd (.inr (.inr ⟨t, n, T, ht, rfl, h⟩)) hx
      unfold cellAt at h ⊢
      rw [putT_same (hG.tau_lt ht)]
      rw [hcs] at h
      exact (hold j hj).trans h
    · rw [cellAt_other (putT_other hb)]; exact h
  forb := fun b j hb hx => by
    rcases hx with hx | ⟨id', es', sz', h1, h2⟩ | ⟨t', n2, T', h1, h2, h3⟩
    · exact .inl hx
    · exact .inr (.inl ⟨id', es', sz', h1, h2⟩)
    · rcases get_set h1 with ⟨rfl, he, _⟩ | ⟨_, h1⟩
      · cases he
        exact .inr (.inr ⟨t', n, _, ht, h2, Nat.le_trans (Nat.mul_le_mul_right _ hn) h3⟩)
      · exact .inr (.inr ⟨t', n2, T', h1, h2, h3⟩)
  other := fun b _ ho => putT_other fun e => ho (.inr ⟨t, _, ht, e.symm⟩)
  own := fun b _ ho => by
    rcases ho with ⟨id', k', h1, h2, h3⟩ | ⟨t', x, h1, h2⟩
    · exact .inl ⟨id', k', h1, h2, h3⟩
    · rcases get_set h1 with ⟨rfl, _, _⟩ | ⟨_, h1⟩
      · exact .inr ⟨t', _, ht, h2⟩
      · exact .inr ⟨t', x, h1, h2⟩
  blks := Nat.le_refl _
  rho := fun _ _ => rfl
  live := fun id' _ es' sz' h => ⟨⟨es', h⟩, csize_other (putT_other fun e => hG.rt id' _ t _ h (by simp) ht e)⟩
  toks := by simp [Z.putT]
  tok := fun t' _ n2 T' h => by
    rcases get_set h with ⟨rfl, he, _⟩ | ⟨hne, h1⟩
    · cases he
      refine ⟨n, ht, hn, fun _ => ⟨rfl, ?_⟩⟩
      unfold csize; rw [putT_same (hG.tau_lt ht), hcs]; exact hsz
    · exact ⟨n2, h1, Nat.le_refl _, fun _ => ⟨rfl, csize_other (putT_other fun e => hne (hG.tt t' t _ _ h1 ht e))⟩⟩
  loops := fun b l h => by
    have hb : b ≠ z.τ t := fun e => by rw [e, hcs] at h; cases h
    exact ⟨l, (putT_other hb).trans h⟩
theorem putT_good (hG : Good C N z) {t n n' T : Nat} (ht : z.m.toks[t]? = some (n, T)) {cs cs' : Array Value} (hcs : z.h[z.τ t]? = some (.cells cs T (0, 0))) (hsz : cs'.size = cs.size) (hn : n ≤ n')
    (hold : ∀ o, o < n * tsz C.P T → cs'[o]? = cs[o]?) (hfit : ∃ cap, cs.size = cap * tsz C.P T ∧ n' ≤ cap ∧ cap ≤ maxLen) : Good C N (z.putT t n' T (.cells cs' T (0, 0))) := by
  have hT := putT_tr (N := N) hG ht hcs hsz hn hold
  constructor
  · intro id' es' sz' h
    obtain ⟨cs2, T2, h2, h3, h4⟩ := hG.live id' es' sz' h
    refine ⟨cs2, T2, (putT_other fun e => hG.rt id' _ t _ h (by simp) ht e).trans h2, h3, fun i e he => ⟨(h4 i e he).1, fun j a ha => ?_⟩⟩
    obtain ⟨u, h5, h6, h7⟩ := (h4 i e he).2 j a ha
    exact ⟨u, h5, h6, R_step hT h7⟩
  · intro t' n2 T' h
    rcases get_set h with ⟨rfl, he, _⟩ | ⟨hne, h1⟩
    · cases he
      obtain ⟨cap, h1, h2, h3⟩ := hfit
      exact ⟨cs', cap, putT_same (hG.tau_lt ht), hsz.trans h1, h2, h3⟩
    · obtain ⟨cs2, cap, h2, h3⟩ := hG.tok t' n2 T' h1
      exact ⟨cs2, cap, (putT_other fun e => hne (hG.tt t' t _ _ h1 ht e)).trans h2, h3⟩
  · intro i1 i2 k1 k2 h1 h2 d1 d2 he; exact hG.rr i1 i2 k1 k2 h1 h2 d1 d2 he
  · intro i1 k1 t' x h1 d1 h2 he
    rcases get_set h2 with ⟨rfl, _, _⟩ | ⟨_, h2⟩
    · exact hG.rt i1 k1 t' _ h1 d1 ht he
    · exact hG.rt i1 k1 t' x h1 d1 h2 he
  · intro t1 t2 x1 x2 h1 h2 he
    have f : ∀ {i k'}, (z.putT t n' T (.cells cs' T (0, 0))).m.toks[i]? = some k' → ∃ k2, z.m.toks[i]? = some k2 := fun {i k'} h => by
      rcases get_set h with ⟨rfl, _, _⟩ | ⟨_, h⟩
      · exact ⟨_, ht⟩
      · exact ⟨k', h⟩
    obtain ⟨k3, g1⟩ := f h1
    obtain ⟨k4, g2⟩ := f h2
    exact hG.tt t1 t2 k3 k4 g1 g2 he
  · intro i1 es' sz' h o hnn; exact hG.nl i1 es' sz' h o hnn
  · intro t' n2 T' h o ho hnn
    rcases get_set h with ⟨rfl, he, _⟩ | ⟨_, h1⟩
    · cases he; exact hG.nt t' n _ ht o (Nat.le_trans (Nat.mul_le_mul_right _ hn) ho) hnn
    · exact hG.nt t' n2 T' h1 o ho hnn
  · intro b o hnn; have := hG.no b o hnn; simp [Z.putT]; exact this
  · intro i1 env ps asg body rdy pend h
    obtain ⟨L, h2, h3, h4, h5, h6, h6', h7, h8, h9⟩ := hG.lp i1 env ps asg body rdy pend h
    exact ⟨L, (putT_other fun e => hG.rt i1 _ t _ h (by simp) ht e).trans h2, h3, h4, h5, h6, h6', fun t => R_step hT (h7 t), h8, h9⟩
  · intro g e h; exact R_step hT (hG.glob g e h)
  · intro i1 kvs ek h
    obtain ⟨es, clock, h2, h3⟩ := hG.mp i1 kvs ek h
    exact ⟨es, clock, (putT_other fun e => hG.rt i1 _ t _ h (by simp) ht e).trans h2, h3.step hT⟩

/-- A new row behind which an append may go on. -/
def Z.newT (z : Z) (n T : Nat) (o : Obj) : Z := ⟨z.h.push o, z.ρ, fun i => if i = z.m.toks.length then z.h.size else z.τ i, { z.m with toks := z.m.toks ++ [(n, T)] }⟩
theorem newT_tr (hG : Good C N z) (n T : Nat) (o : Obj) : Tr C.P N z (z.newT n T o) where
  size := by simp [Z.newT]
  cell := fun b j u h _ => by show cellAt (z.h.push o) b j = _; rw [cellAt_push (cellAt_lt h)]; exact h
  forb := fun b j hb hx => by
    rcases hx with hx | ⟨id, es, sz, h1, h2⟩ | ⟨t, n', T', h1, h2, h3⟩
    · exact .inl hx
    · exact .inr (.inl ⟨id, es, sz, h1, h2⟩)
    · rcases get_snoc h1 with ⟨h1, hi⟩ | ⟨rfl, _⟩
      · refine .inr (.inr ⟨t, n', T', h1, ?_, h3⟩)
        simp only [Z.newT] at h2; rw [if_neg (by omega)] at h2; exact h2
      · simp only [Z.newT, if_true] at h2; omega
  other := fun b hb _ => get_push_lt hb
  own := fun b hb ho => by
    rcases ho with ⟨id, k', h1, h2, h3⟩ | ⟨t, x, h1, h2⟩
    · exact .inl ⟨id, k', h1, h2, h3⟩
    · rcases get_snoc h1 with ⟨h1, hi⟩ | ⟨rfl, _⟩
      · refine .inr ⟨t, x, h1, ?_⟩
        simp only [Z.newT] at h2; rw [if_neg (by omega)] at h2; exact h2
      · simp only [Z.newT, if_true] at h2; omega
  blks := Nat.le_refl _
  rho := fun _ _ => rfl
  live := fun id _ es sz h => ⟨⟨es, h⟩, csize_push (hG.rho_lt h (by simp))⟩
  toks := by simp [Z.newT]
  tok := fun t ht n' T' h => by
    rcases get_snoc h with ⟨h1, hi⟩ | ⟨rfl, _⟩
    · exact ⟨n', h1, Nat.le_refl _, fun _ => ⟨by simp only [Z.newT]; rw [if_neg (by omega)], csize_push (hG.tau_lt h1)⟩⟩
    · omega
  loops := fun b l h => ⟨l, by show (z.h.push o)[b]? = _; rw [get_push_lt (Array.getElem?_eq_some_iff.1 h).1]; exact h⟩
theorem newT_good (hG : Good C N z) {n T : Nat} {cs : Array Value} (hfit : ∃ cap, cs.size = cap * tsz C.P T ∧ n ≤ cap ∧ cap ≤ maxLen) : Good C N (z.newT n T (.cells cs T (0, 0))) := by
  have hT := newT_tr (N := N) hG n T (.cells cs T (0, 0))
  have hold : ∀ t, t < z.m.toks.length → (z.newT n T (.cells cs T (0, 0))).τ t = z.τ t := fun t ht => by simp only [Z.newT]; rw [if_neg (by omega)]
  have hnew : (z.newT n T (.cells cs T (0, 0))).τ z.m.toks.length = z.h.size := by simp [Z.newT]
  constructor
  · intro id es sz h
    obtain ⟨cs2, T2, h2, h3, h4⟩ := hG.live id es sz h
    refine ⟨cs2, T2, (get_push_lt (hG.rho_lt h (by simp))).trans h2, h3, fun i e he => ⟨(h4 i e he).1, fun j a ha => ?_⟩⟩
    obtain ⟨u, h5, h6, h7⟩ := (h4 i e he).2 j a ha
    exact ⟨u, h5, h6, R_step hT h7⟩
  · intro t n' T' h
    rcases get_snoc h with ⟨h1, hi⟩ | ⟨rfl, he⟩
    · obtain ⟨cs2, cap, h2, h3⟩ := hG.tok t n' T' h1
      refine ⟨cs2, cap, ?_, h3⟩
      rw [hold t hi]; exact (get_push_lt (hG.tau_lt h1)).trans h2
    · cases he
      obtain ⟨cap, h1, h2⟩ := hfit
      refine ⟨cs, cap, ?_, h1, h2⟩
      rw [hnew]; show (z.h.push _)[z.h.size]? = _; simp
  · intro i1 i2 k1 k2 h1 h2 d1 d2 he; exact hG.rr i1 i2 k1 k2 h1 h2 d1 d2 he
  · intro id k t x h1 d1 h2 he
    rcases get_snoc h2 with ⟨g2, hi⟩ | ⟨hi, e2⟩
    · rw [hold t hi] at he; exact hG.rt id k t x h1 d1 g2 he
    · subst hi; rw [hnew] at he; have := hG.rho_lt h1 d1; simp only [Z.newT] at he; omega
  · intro t1 t2 x1 x2 h1 h2 he
    rcases get_snoc h1 with ⟨g1, hi⟩ | ⟨hi, e1⟩ <;> rcases get_snoc h2 with ⟨g2, hi'⟩ | ⟨hi', e2⟩
    · rw [hold t1 hi, hold t2 hi'] at he; exact hG.tt t1 t2 x1 x2 g1 g2 he
    · subst hi'; rw [hold t1 hi, hnew] at he; have := hG.tau_lt g1; omega
    · subst hi; rw [hold t2 hi', hnew] at he; have := hG.tau_lt g2; omega
    · omega
  · intro id es sz h o hnn; exact hG.nl id es sz h o hnn
  · intro t n' T' h o ho hnn
    rcases get_snoc h with ⟨h1, hi⟩ | ⟨rfl, _⟩
    · rw [hold t hi] at hnn; exact hG.nt t n' T' h1 o ho hnn
    · rw [hnew] at hnn; have := hG.no _ _ hnn; omega
  · intro b o hnn; have := hG.no b o hnn; simp [Z.newT]; omega
  · intro id env ps asg body rdy pend h
    obtain ⟨L, h2, h3, h4, h5, h6, h6', h7, h8, h9⟩ := hG.lp id env ps asg body rdy pend h
    exact ⟨L, (get_push_lt (hG.rho_lt h (by simp))).trans h2, h3, h4, h5, h6, h6', fun t => R_step hT (h7 t), h8, h9⟩
  · intro g e h; exact R_step hT (hG.glob g e h)
  · intro i1 kvs ek h
    obtain ⟨es, clock, h2, h3⟩ := hG.mp i1 kvs ek h
    exact ⟨es, clock, (get_push_lt (hG.rho_lt h (by simp))).trans h2, h3.step hT⟩
/-- A row grows by moving: the token stands for the new one. -/
def Z.moveT (z : Z) (t n T : Nat) (o : Obj) : Z := ⟨z.h.push o, z.ρ, fun i => if i = t then z.h.size else z.τ i, { z.m with toks := z.m.toks.set t (n, T) }⟩
theorem moveT_tr (hG : Good C N z) {t n n' T : Nat} (ht : z.m.toks[t]? = some (n, T)) (hn : n < n') (o : Obj) : Tr C.P N z (z.moveT t n' T o) where
  size := by simp [Z.moveT]
  cell := fun b j u h _ => by show cellAt (z.h.push o) b j = _; rw [cellAt_push (cellAt_lt h)]; exact h
  forb := fun b j hb hx => by
    rcases hx with hx | ⟨id, es, sz, h1, h2⟩ | ⟨t', n2, T', h1, h2, h3⟩
    · exact .inl hx
    · exact .inr (.inl ⟨id, es, sz, h1, h2⟩)
    · rcases get_set h1 with ⟨rfl, he, _⟩ | ⟨hne, h1⟩
      · simp only [Z.moveT, if_true] at h2; omega
      · refine .inr (.inr ⟨t', n2, T', h1, ?_, h3⟩)
        simp only [Z.moveT] at h2; rw [if_neg hne] at h2; exact h2
  other := fun b hb _ => get_push_lt hb
  own := fun b hb ho => by
    rcases ho with ⟨id, k', h1, h2, h3⟩ | ⟨t', x, h1, h2⟩
    · exact .inl ⟨id, k', h1, h2, h3⟩
    · rcases get_set h1 with ⟨rfl, _, _⟩ | ⟨hne, h1⟩
      · simp only [Z.moveT, if_true] at h2; omega
      · refine .inr ⟨t', x, h1, ?_⟩
        simp only [Z.moveT] at h2; rw [if_neg hne] at h2; exact h2
  blks := Nat.le_refl _
  rho := fun _ _ => rfl
  live := fun id _ es sz h => ⟨⟨es, h⟩, csize_push (hG.rho_lt h (by simp))⟩
  toks := by simp [Z.moveT]
  tok := fun t' _ n2 T' h => by
    rcases get_set h with ⟨rfl, he, _⟩ | ⟨hne, h1⟩
    · cases he; exact ⟨n, ht, by omega, fun e => by omega⟩
    · exact ⟨n2, h1, Nat.le_refl _, fun _ => ⟨by simp only [Z.moveT]; rw [if_neg hne], csize_push (hG.tau_lt h1)⟩⟩
  loops := fun b l h => ⟨l, by show (z.h.push o)[b]? = _; rw [get_push_lt (Array.getElem?_eq_some_iff.1 h).1]; exact h⟩
theorem moveT_good (hG : Good C N z) {t n n' T : Nat} (ht : z.m.toks[t]? = some (n, T)) (hn : n < n') {cs : Array Value} (hfit : ∃ cap, cs.size = cap * tsz C.P T ∧ n' ≤ cap ∧ cap ≤ maxLen) :
    Good C N (z.moveT t n' T (.cells cs T (0, 0))) := by
  have hT := moveT_tr (N := N) hG ht hn (.cells cs T (0, 0))
  have hold : ∀ t', t' ≠ t → (z.moveT t n' T (.cells cs T (0, 0))).τ t' = z.τ t' := fun t' h => by simp only [Z.moveT]; rw [if_neg h]
  have hnew : (z.moveT t n' T (.cells cs T (0, 0))).τ t = z.h.size := by simp [Z.moveT]
  constructor
  · intro id es sz h
    obtain ⟨cs2, T2, h2, h3, h4⟩ := hG.live id es sz h
    refine ⟨cs2, T2, (get_push_lt (hG.rho_lt h (by simp))).trans h2, h3, fun i e he => ⟨(h4 i e he).1, fun j a ha => ?_⟩⟩
    obtain ⟨u, h5, h6, h7⟩ := (h4 i e he).2 j a ha
    exact ⟨u, h5, h6, R_step hT h7⟩
  · intro t' n2 T' h
    rcases get_set h with ⟨rfl, he, _⟩ | ⟨hne, h1⟩
    · cases he
      obtain ⟨cap, h1, h2⟩ := hfit
      refine ⟨cs, cap, ?_, h1, h2⟩
      rw [hnew]; show (z.h.push _)[z.h.size]? = _; simp
    · obtain ⟨cs2, cap, h2, h3⟩ := hG.tok t' n2 T' h1
      refine ⟨cs2, cap, ?_, h3⟩
      rw [hold t' hne]; exact (get_push_lt (hG.tau_lt h1)).trans h2
  · intro i1 i2 k1 k2 h1 h2 d1 d2 he; exact hG.rr i1 i2 k1 k2 h1 h2 d1 d2 he
  · intro id k t' x h1 d1 h2 he
    rcases get_set h2 with ⟨rfl, _, _⟩ | ⟨hne, g2⟩
    · rw [hnew] at he; have := hG.rho_lt h1 d1; simp only [Z.moveT] at he; omega
    · rw [hold t' hne] at he; exact hG.rt id k t' x h1 d1 g2 he
  · intro t1 t2 x1 x2 h1 h2 he
    rcases get_set h1 with ⟨hi, _, _⟩ | ⟨hi, g1⟩ <;> rcases get_set h2 with ⟨hi', _, _⟩ | ⟨hi', g2⟩
    · omega
    · rw [hi, hnew, hold t2 hi'] at he; have := hG.tau_lt g2; omega
    · rw [hi', hnew, hold t1 hi] at he; have := hG.tau_lt g1; omega
    · rw [hold t1 hi, hold t2 hi'] at he; exact hG.tt t1 t2 x1 x2 g1 g2 he
  · intro id es sz h o hnn; exact hG.nl id es sz h o hnn
  · intro t' n2 T' h o ho hnn
    rcases get_set h with ⟨rfl, _, _⟩ | ⟨hne, h1⟩
    · rw [hnew] at hnn; have := hG.no _ _ hnn; omega
    · rw [hold t' hne] at hnn; exact hG.nt t' n2 T' h1 o ho hnn
  · intro b o hnn; have := hG.no b o hnn; simp [Z.moveT]; omega
  · intro id env ps asg body rdy pend h
    obtain ⟨L, h2, h3, h4, h5, h6, h6', h7, h8, h9⟩ := hG.lp id env ps asg body rdy pend h
    exact ⟨L, (get_push_lt (hG.rho_lt h (by simp))).trans h2, h3, h4, h5, h6, h6', fun t => R_step hT (h7 t), h8, h9⟩
  · intro g e h; exact R_step hT (hG.glob g e h)
  · intro i1 kvs ek h
    obtain ⟨es, clock, h2, h3⟩ := hG.mp i1 kvs ek h
    exact ⟨es, clock, (get_push_lt (hG.rho_lt h (by simp))).trans h2, h3.step hT⟩
/-- A map is changed. -/
def Z.putM (z : Z) (id : Nat) (k : Blk) (o : Obj) : Z := ⟨z.h.setIfInBounds (z.ρ id) o, z.ρ, z.τ, { z.m with blks := z.m.blks.set id k }⟩
theorem putM_other {id b : Nat} {k : Blk} {o : Obj} (h : b ≠ z.ρ id) : (z.putM id k o).h[b]? = z.h[b]? := by
  simp only [Z.putM]; rw [Array.getElem?_setIfInBounds_ne (Ne.symm h)]
theorem putM_same {id : Nat} {k : Blk} {o : Obj} (h : z.ρ id < z.h.size) : (z.putM id k o).h[z.ρ id]? = some o := by
  simp only [Z.putM]; simp [h]
theorem putM_tr (hG : Good C N z) {id : Nat} {kvs : List (AV × AV)} {ek : EK} (hid : z.m.blks[id]? = some (.mp kvs ek)) (kvs' : List (AV × AV)) (es : Array MapEntry) (clock : Nat) :
    Tr C.P N z (z.putM id (.mp kvs' ek) (.map es clock)) where
  size := by simp [Z.putM]
  cell := fun b j u h hx => by
    by_cases hb : b = z.ρ id
    · obtain ⟨es0, c0, h1, _⟩ := hG.mp id kvs ek hid
      subst hb
      unfold cellAt at h; rw [h1] at h; cases h
    · rw [cellAt_other (putM_other hb)]; exact h
  forb := fun b j hb hx => by
    rcases hx with hx | ⟨id', es', sz', h1, h2⟩ | hx
    · exact .inl hx
    · rcases get_set h1 with ⟨_, he, _⟩ | ⟨_, h1⟩
      · cases he
      · exact .inr (.inl ⟨id', es', sz', h1, h2⟩)
    · exact .inr (.inr hx)
  other := fun b _ ho => putM_other fun e => ho (.inl ⟨id, _, hid, by simp, e.symm⟩)
  own := fun b _ ho => by
    rcases ho with ⟨id', k', h1, h2, h3⟩ | ho
    · rcases get_set h1 with ⟨rfl, _, _⟩ | ⟨_, h1⟩
      · exact .inl ⟨id', _, hid, by simp, h3⟩
      · exact .inl ⟨id', k', h1, h2, h3⟩
    · exact .inr ho
  blks := by simp [Z.putM]
  rho := fun _ _ => rfl
  live := fun id' _ es' sz' h => by
    rcases get_set h with ⟨_, he, _⟩ | ⟨hne, h1⟩
    · cases he
    · exact ⟨⟨es', h1⟩, csize_other (putM_other fun e => hne (hG.rr id' id _ _ h1 hid (by simp) (by simp) e))⟩
  toks := Nat.le_refl _
  tok := fun t _ n T h => ⟨n, h, Nat.le_refl _, fun _ => ⟨rfl, csize_other (putM_other fun e => hG.rt id _ t _ hid (by simp) h e.symm)⟩⟩
  loops := fun b l h => by
    have hb : b ≠ z.ρ id := fun e => by obtain ⟨es0, c0, h1, _⟩ := hG.mp id kvs ek hid; rw [e, h1] at h; cases h
    exact ⟨l, (putM_other hb).trans h⟩
theorem putM_good (hG : Good C N z) {id : Nat} {kvs : List (AV × AV)} {ek : EK} (hid : z.m.blks[id]? = some (.mp kvs ek)) {kvs' : List (AV × AV)} {es : Array MapEntry} (clock : Nat)
    (hm : MpP C.P N z ek kvs' es.toList clock) : Good C N (z.putM id (.mp kvs' ek) (.map es clock)) := by
  have hT := putM_tr (N := N) hG hid kvs' es clock
  have hlt := hG.rho_lt hid (by simp)
  constructor
  · intro id' es' sz' h
    rcases get_set h with ⟨_, he, _⟩ | ⟨hne, h1⟩
    · cases he
    · obtain ⟨cs2, T2, h2, h3, h4⟩ := hG.live id' es' sz' h1
      refine ⟨cs2, T2, (putM_other fun e => hne (hG.rr id' id _ _ h1 hid (by simp) (by simp) e)).trans h2, h3, fun i e he => ⟨(h4 i e he).1, fun j a ha => ?_⟩⟩
      obtain ⟨u, h5, h6, h7⟩ := (h4 i e he).2 j a ha
      exact ⟨u, h5, h6, R_step hT h7⟩
  · intro t n T' h
    obtain ⟨cs2, cap, h1, h2⟩ := hG.tok t n T' h
    exact ⟨cs2, cap, (putM_other fun e => hG.rt id _ t _ hid (by simp) h e.symm).trans h1, h2⟩
  · intro i1 i2 k1 k2 h1 h2 d1 d2 he
    have f : ∀ {i k'}, (z.putM id (.mp kvs' ek) (.map es clock)).m.blks[i]? = some k' → ∃ k2, z.m.blks[i]? = some k2 ∧ (k' ≠ Blk.dead → k2 ≠ Blk.dead) := fun {i k'} h => by
      rcases get_set h with ⟨rfl, _, _⟩ | ⟨_, h⟩
      · exact ⟨_, hid, fun _ => by simp⟩
      · exact ⟨k', h, fun h => h⟩
    obtain ⟨k3, g1, e1⟩ := f h1
    obtain ⟨k4, g2, e2⟩ := f h2
    exact hG.rr i1 i2 k3 k4 g1 g2 (e1 d1) (e2 d2) he
  · intro i1 k1 t x h1 d1 h2 he
    rcases get_set h1 with ⟨rfl, _, _⟩ | ⟨_, h1⟩
    · exact hG.rt i1 _ t x hid (by simp) h2 he
    · exact hG.rt i1 k1 t x h1 d1 h2 he
  · intro t t' x x' h1 h2 he; exact hG.tt t t' x x' h1 h2 he
  · intro i1 es' sz' h o hn
    rcases get_set h with ⟨_, he, _⟩ | ⟨_, h1⟩
    · cases he
    · exact hG.nl i1 es' sz' h1 o hn
  · intro t n T' h o ho hn; exact hG.nt t n T' h o ho hn
  · intro b o hn; have := hG.no b o hn; simp [Z.putM]; exact this
  · intro i1 env ps asg body rdy pend h
    rcases get_set h with ⟨_, he, _⟩ | ⟨hne, h1⟩
    · cases he
    · obtain ⟨L, h2, h3, h4, h5, h6, h6', h7, h8, h9⟩ := hG.lp i1 env ps asg body rdy pend h1
      exact ⟨L, (putM_other fun e => hne (hG.rr i1 id _ _ h1 hid (by simp) (by simp) e)).trans h2, h3, h4, h5, h6, h6', fun t => R_step hT (h7 t), h8, h9⟩
  · intro g e h; exact R_step hT (hG.glob g e h)
  · intro i1 kvs2 ek2 h
    rcases get_set h with ⟨rfl, he, _⟩ | ⟨hne, h1⟩
    · cases he
      exact ⟨es, clock, putM_same hlt, hm.step hT⟩
    · obtain ⟨es2, c2, h2, h3⟩ := hG.mp i1 kvs2 ek2 h1
      exact ⟨es2, c2, (putM_other fun e => hne (hG.rr i1 id _ _ h1 hid (by simp) (by simp) e)).trans h2, h3.step hT⟩

/-- A block gets a new number. -/
def Z.renB (z : Z) (id : Nat) (k : Blk) : Z := ⟨z.h, fun i => if i = z.m.blks.length then z.ρ id else z.ρ i, z.τ, { z.m with blks := z.m.blks.set id .dead ++ [k] }⟩
theorem renB_get {id i : Nat} {k k' : Blk} (h : (z.renB id k).m.blks[i]? = some k') : (i < z.m.blks.length ∧ (z.renB id k).ρ i = z.ρ i ∧ ((i = id ∧ k' = .dead) ∨ (i ≠ id ∧ z.m.blks[i]? = some k'))) ∨ (i = z.m.blks.length ∧ k' = k ∧ (z.renB id k).ρ i = z.ρ id) := by
  rcases get_snoc h with ⟨h1, hi⟩ | ⟨hi, rfl⟩
  · rw [List.length_set] at hi
    refine .inl ⟨hi, by simp only [Z.renB]; rw [if_neg (by omega)], ?_⟩
    rcases get_set h1 with ⟨h2, h3, _⟩ | ⟨h2, h3⟩
    · exact .inl ⟨h2, h3⟩
    · exact .inr ⟨h2, h3⟩
  · rw [List.length_set] at hi
    exact .inr ⟨hi, rfl, by simp only [Z.renB]; rw [if_pos hi]⟩
theorem renB_tr {id : Nat} {es : List AV} {sz : Nat} (hid : z.m.blks[id]? = some (.live es sz)) : Tr C.P N z (z.renB id (.live es sz)) where
  size := Nat.le_refl _
  cell := fun _ _ _ h _ => h
  forb := fun b o _ hx => by
    rcases hx with hx | ⟨id', es', sz', h1, h2⟩ | hx
    · exact .inl hx
    · rcases renB_get h1 with ⟨_, h3, ⟨_, h4⟩ | ⟨_, h4⟩⟩ | ⟨_, h3, h4⟩
      · cases h4
      · exact .inr (.inl ⟨id', es', sz', h4, h3.symm.trans h2⟩)
      · exact .inr (.inl ⟨id, es, sz, hid, h4.symm.trans h2⟩)
    · exact .inr (.inr hx)
  other := fun _ _ _ => rfl
  own := fun b _ ho => by
    rcases ho with ⟨id', k', h1, h2, h3⟩ | ho
    · rcases renB_get h1 with ⟨_, h4, ⟨_, h5⟩ | ⟨_, h5⟩⟩ | ⟨_, _, h5⟩
      · exact absurd h5 h2
      · exact .inl ⟨id', k', h5, h2, h4.symm.trans h3⟩
      · exact .inl ⟨id, _, hid, by simp, h5.symm.trans h3⟩
    · exact .inr ho
  blks := by simp [Z.renB]
  rho := fun i hi => by simp only [Z.renB]; rw [if_neg (by omega)]
  live := fun i hi es' sz' h => by
    rcases renB_get h with ⟨_, _, ⟨_, h5⟩ | ⟨_, h5⟩⟩ | ⟨h5, _⟩
    · cases h5
    · exact ⟨⟨es', h5⟩, rfl⟩
    · omega
  toks := Nat.le_refl _
  tok := fun t _ n T' h => ⟨n, h, Nat.le_refl _, fun _ => ⟨rfl, rfl⟩⟩
  loops := fun b l h => ⟨l, h⟩
theorem renB_good (hG : Good C N z) {id : Nat} {es : List AV} {sz : Nat} (hid : z.m.blks[id]? = some (.live es sz)) : Good C N (z.renB id (.live es sz)) := by
  have hT := renB_tr (C := C) (N := N) hid
  constructor
  · intro i es' sz' h
    rcases renB_get h with ⟨_, h4, ⟨_, h5⟩ | ⟨_, h5⟩⟩ | ⟨_, h5, h4⟩
    · cases h5
    · obtain ⟨cs, T, h6, h7, h8⟩ := hG.live i es' sz' h5
      rw [h4]
      exact ⟨cs, T, h6, h7, fun i e he => ⟨(h8 i e he).1, fun j a ha => let ⟨u, g1, g2, g3⟩ := (h8 i e he).2 j a ha; ⟨u, g1, g2, R_step hT g3⟩⟩⟩
    · cases h5
      obtain ⟨cs, T, h6, h7, h8⟩ := hG.live id es sz hid
      rw [h4]
      exact ⟨cs, T, h6, h7, fun i e he => ⟨(h8 i e he).1, fun j a ha => let ⟨u, g1, g2, g3⟩ := (h8 i e he).2 j a ha; ⟨u, g1, g2, R_step hT g3⟩⟩⟩
  · exact hG.tok
  · intro i1 i2 k1 k2 h1 h2 d1 d2 he
    rcases renB_get h1 with ⟨_, g1, ⟨_, g2⟩ | ⟨g3, g2⟩⟩ | ⟨g1, g2, g3⟩
    · exact absurd g2 d1
    · rcases renB_get h2 with ⟨_, f1, ⟨_, f2⟩ | ⟨f3, f2⟩⟩ | ⟨f1, f2, f3⟩
      · exact absurd f2 d2
      · exact hG.rr i1 i2 k1 k2 g2 f2 d1 d2 (by rw [← g1, ← f1]; exact he)
      · exact absurd (hG.rr i1 id k1 _ g2 hid d1 (by simp) (by rw [← g1, ← f3]; exact he)) g3
    · rcases renB_get h2 with ⟨_, f1, ⟨_, f2⟩ | ⟨f3, f2⟩⟩ | ⟨f1, f2, f3⟩
      · exact absurd f2 d2
      · exact absurd (hG.rr i2 id k2 _ f2 hid d2 (by simp) (by rw [← g3, ← f1]; exact he.symm)) f3
      · omega
  · intro i k1 t x h1 d1 h2 he
    rcases renB_get h1 with ⟨_, g1, ⟨_, g2⟩ | ⟨g3, g2⟩⟩ | ⟨g1, g2, g3⟩
    · exact absurd g2 d1
    · exact hG.rt i k1 t x g2 d1 h2 (by rw [← g1]; exact he)
    · exact hG.rt id _ t x hid (by simp) h2 (by rw [← g3]; exact he)
  · exact hG.tt
  · intro i es' sz' h o hn
    rcases renB_get h with ⟨_, h4, ⟨_, h5⟩ | ⟨_, h5⟩⟩ | ⟨_, h5, h4⟩
    · cases h5
    · rw [h4] at hn; exact hG.nl i es' sz' h5 o hn
    · rw [h4] at hn; exact hG.nl id es sz hid o hn
  · exact hG.nt
  · exact hG.no
  · intro i env ps asg body rdy pend h
    rcases renB_get h with ⟨_, h4, ⟨_, h5⟩ | ⟨_, h5⟩⟩ | ⟨_, h5, h4⟩
    · cases h5
    · obtain ⟨L, h2, h3, h4', h5', h6, h6', h7, h8, h9⟩ := hG.lp i env ps asg body rdy pend h5
      rw [h4]
      exact ⟨L, h2, h3, h4', h5', h6, h6', fun t => R_step hT (h7 t), h8, h9⟩
    · cases h5
  · intro g e h; exact R_step hT (hG.glob g e h)
  · intro i kvs ek h
    rcases renB_get h with ⟨_, h4, ⟨_, h5⟩ | ⟨_, h5⟩⟩ | ⟨_, h5, h4⟩
    · cases h5
    · obtain ⟨es, clock, h2, h3⟩ := hG.mp i kvs ek h5
      rw [h4]
      exact ⟨es, clock, h2, h3.step hT⟩
    · cases h5
end
end Go.Ab
end

section
/-
  The operations that touch no memory: each gives what the abstract machine gives.
-/
namespace Go.Ab

structure WS (w w' : World) : Prop where
  os : w'.os = w.os
  tape : w'.tape = w.tape
  output : w'.output = w.output
theorem WS.refl (w : World) : WS w w := ⟨rfl, rfl, rfl⟩
theorem WS.trans {a b c : World} (h : WS a b) (k : WS b c) : WS a c := ⟨k.os.trans h.os, k.tape.trans h.tape, k.output.trans h.output⟩

/-- What an operation's run comes to. -/
def OpRes (C : Cx) (N : Nat → Nat → Prop) (z : Z) (m' : Mem) (v : AV) (w : World) (r : Result Next) : Prop :=
  ∃ (v' : Value) (w' : World) (z' : Z), (r = .ok (.value v') w' ∨ (r = .ok .skip w' ∧ v' = undef)) ∧ R C.P N z' v v' ∧ Good C N z' ∧ Tr C.P N z z' ∧ z'.h = w'.heap ∧ z'.m = m' ∧ WS w w'

section
variable {C : Cx} {N : Nat → Nat → Prop} {z : Z} {w : World}

theorem OpRes.val (hG : Good C N z) (hh : z.h = w.heap) {v : AV} {v' : Value} {r : Result Next} (hr : r = .ok (.value v') w) (hv : R C.P N z v v') : OpRes C N z z.m v w r :=
  ⟨v', w, z, .inl hr, hv, hG, Tr.refl z, hh, rfl, WS.refl w⟩

theorem mapM_RL {α : Type} {f : α → Option AV} {S : AV → α → Prop} (h : ∀ x a, f x = some a → S a x) : ∀ {l : List α} {as : List AV}, l.mapM f = some as → as.length = l.length ∧ ∀ (i : Nat) a x, as[i]? = some a → l[i]? = some x → S a x
  | [], as, e => by simp at e; subst e; exact ⟨rfl, fun i a x h => by simp at h⟩
  | y :: l, as, e => by
    simp only [List.mapM_cons, bind, Option.bind_eq_some_iff, pure, Option.some.injEq] at e
    obtain ⟨b, hb, bs, hbs, rfl⟩ := e
    obtain ⟨h1, h2⟩ := mapM_RL h hbs
    refine ⟨by simp [h1], fun i a x h3 h4 => ?_⟩
    cases i with
    | zero => simp at h3 h4; subst h3; subst h4; exact h _ _ hb
    | succ i => exact h2 i a x (by simpa using h3) (by simpa using h4)

theorem R_nilslice : R C.P N z (.sl [] .tight) (.slice none 0 0) :=
  R_sl.2 ⟨none, 0, 0, rfl, Nat.le_refl _, by simp [maxLen], fun _ => rfl, (fun e he => by cases he), (fun i e he => by simp at he), rfl⟩
theorem trVal_sound {v : Value} {a : AV} (h : trVal v = some a) : R C.P N z a v := by
  unfold trVal at h
  split at h
  · cases h; exact R_bool.2 rfl
  · cases h; exact R_int.2 rfl
  · cases h; exact R_str.2 rfl
  · cases h; exact R_nilslice
  · cases h; exact R_nilf.2 rfl
  · cases h; exact R_nilp.2 rfl
  · cases h; exact R_nilm.2 rfl
  · rename_i cs
    simp only [Option.map_eq_some_iff] at h
    obtain ⟨as, h1, rfl⟩ := h
    refine R_agg.2 ⟨cs, rfl, ?_⟩
    refine mapM_RL (S := fun a x => R C.P N z a x) (fun x a hx => ?_) h1
    split at hx <;> first
      | (cases hx; exact R_bool.2 rfl)
      | (cases hx; exact R_int.2 rfl)
      | (cases hx; exact R_str.2 rfl)
      | (cases hx; exact R_nilslice)
      | (cases hx; exact R_nilf.2 rfl)
      | (cases hx; exact R_nilp.2 rfl)
      | (cases hx; exact R_nilm.2 rfl)
      | cases hx
  · cases h

/-- The slots stand for the activation's. -/
def EnvOK (C : Cx) (N : Nat → Nat → Prop) (z : Z) (env : Nat → AV) (a : Act) : Prop := ∀ t, R C.P N z (env t) (a.tmps.getD t undef)

theorem trX_sound (hG : Good C N z) {s : St} {a : Act} (he : EnvOK C N z s.env a) {x : Operand} {sx : Src} (h : trX C.G x = some sx) : R C.P N z (s.ev sx) (a.eval x) := by
  cases x with
  | tmp t => simp [trX] at h; subst h; exact he t
  | const v => simp [trX] at h; obtain ⟨b, h1, rfl⟩ := h; exact trVal_sound h1
  | global g => simp [trX] at h; obtain ⟨e, h1, rfl⟩ := h; exact hG.glob g e h1
  | func f => simp [trX] at h; subst h; exact R_fn.2 ⟨#[], #[], rfl, ⟨rfl, fun i a u h => by simp at h⟩, ⟨rfl, fun i a u h => by simp at h⟩⟩

theorem R_of_bool {b : Bool} {v : Value} (h : R C.P N z (.bool b) v) : v = .bool b := R_bool.1 h
theorem R_of_int {k : IntKind} {n : Int} {v : Value} (h : R C.P N z (.int k n) v) : v = .int k n := R_int.1 h
theorem R_of_str {b : ByteArray} {v : Value} (h : R C.P N z (.str b) v) : v = .string b := R_str.1 h

/-! ### Arithmetic -/
theorem run_eqGuard_int (op : BinOp) (t : TypeId) (x y : Operand) (k k' : IntKind) (p q : Int) : (eqGuard op t x y (.int k p) (.int k' q)).run C.P w = .ok () w := by
  cases op <;> rfl
theorem run_eqGuard_str (op : BinOp) (t : TypeId) (x y : Operand) (p q : ByteArray) : (eqGuard op t x y (.string p) (.string q)).run C.P w = .ok () w := by
  cases op <;> rfl
theorem run_eqGuard_bool (op : BinOp) (t : TypeId) (x y : Operand) (p q : Bool) : (eqGuard op t x y (.bool p) (.bool q)).run C.P w = .ok () w := by
  cases op <;> rfl

theorem bin_sound {op : BinOp} {t : TypeId} {a b v : AV} {x y : Value} (ha : R C.P N z a x) (hb : R C.P N z b y) (h : binOp op a b = some v) :
    ∃ v', (Go.binOp op t x y).run C.P w = .ok v' w ∧ R C.P N z v v' ∧ ∀ ox oy, (eqGuard op t ox oy x y).run C.P w = .ok () w := by
  unfold binOp at h
  split at h
  · obtain rfl := R_of_int ha; obtain rfl := R_of_int hb
    split at h
    · cases h
    · rename_i hy
      cases h
      exact ⟨_, by simp [Go.binOp, Op.shift, hy], R_int.2 rfl, fun _ _ => run_eqGuard_int _ _ _ _ _ _ _ _⟩
  · obtain rfl := R_of_int ha; obtain rfl := R_of_int hb
    split at h
    · cases h
    · rename_i hy
      cases h
      exact ⟨_, by simp [Go.binOp, Op.shift, hy], R_int.2 rfl, fun _ _ => run_eqGuard_int _ _ _ _ _ _ _ _⟩
  · rename_i k x' k' y' h1 h2
    obtain rfl := R_of_int ha; obtain rfl := R_of_int hb
    split at h
    · rename_i hk
      subst hk
      cases op <;> simp only [binI] at h
      case quo =>
        split at h
        · cases h
        · rename_i h0
          cases h
          exact ⟨_, by simp [Go.binOp, Op.intDiv, h0], R_int.2 rfl, fun _ _ => run_eqGuard_int _ _ _ _ _ _ _ _⟩
      case rem =>
        split at h
        · cases h
        · rename_i h0
          cases h
          exact ⟨_, by simp [Go.binOp, Op.intDiv, h0], R_int.2 rfl, fun _ _ => run_eqGuard_int _ _ _ _ _ _ _ _⟩
      all_goals first
        | (cases h; exact ⟨_, by simp [Go.binOp, Op.intArith, Op.intBits, Op.intCmp], R_int.2 rfl, fun _ _ => run_eqGuard_int _ _ _ _ _ _ _ _⟩)
        | (cases h; exact ⟨_, by simp [Go.binOp, Op.intArith, Op.intBits, Op.intCmp], R_bool.2 rfl, fun _ _ => run_eqGuard_int _ _ _ _ _ _ _ _⟩)
        | cases h
    · cases h
  · obtain rfl := R_of_str ha; obtain rfl := R_of_str hb
    split at h
    · rename_i hl
      cases h
      simp only [limit] at hl
      exact ⟨_, by simp [Go.binOp, Op.stringOp]; omega, R_str.2 rfl, fun _ _ => run_eqGuard_str _ _ _ _ _ _⟩
    · cases h
  all_goals first
    | (obtain rfl := R_of_str ha; obtain rfl := R_of_str hb
       cases h
       exact ⟨_, by simp [Go.binOp, Op.stringOp], R_bool.2 rfl, fun _ _ => run_eqGuard_str _ _ _ _ _ _⟩)
    | cases h
end
end Go.Ab
end

section
/-
  More operations: conversions, addresses, parts, slices.
-/
namespace Go.Ab
section
variable {C : Cx} {N : Nat → Nat → Prop} {z : Z} {w : World}

theorem lsz_some {m : Mem} {id n : Nat} (h : lsz m id = some n) : ∃ es, m.blks[id]? = some (.live es n) := by
  unfold lsz at h
  split at h
  · rename_i es n' hb; cases h; exact ⟨es, hb⟩
  · cases h
theorem lsz_isSome {m : Mem} {id : Nat} (h : (lsz m id).isSome = true) : ∃ es n, m.blks[id]? = some (.live es n) := by
  cases hl : lsz m id with
  | none => rw [hl] at h; cases h
  | some n => obtain ⟨es, h'⟩ := lsz_some hl; exact ⟨es, n, h'⟩

theorem RL_get {S : AV → Value → Prop} {as : List AV} {us : List Value} (h : RL S as us) {i : Nat} {a : AV} (ha : as[i]? = some a) : ∃ u, us[i]? = some u ∧ S a u := by
  have hi : i < us.length := by have := (List.getElem?_eq_some_iff.1 ha).1; have := h.1; omega
  exact ⟨us[i], List.getElem?_eq_getElem hi, h.2 i a us[i] ha (List.getElem?_eq_getElem hi)⟩

/-- A part of cells, read off a list of values. -/
theorem read_sound {P : Program} {t : TypeId} {sz : Option Nat} (hl : loadT P t = some sz) {as : List AV} {us : Array Value} {S : AV → Value → Prop} (hr : RL S as us.toList) {off : Nat} {v : AV}
    (h : readCells as off sz = some v) (hS : ∀ cs (vs : Array Value), RL S cs vs.toList → S (.agg cs) (.agg vs)) : ∃ v', (part t us off).run P w = .ok v' w ∧ S v v' := by
  unfold loadT at hl
  split at hl
  · rename_i fs hu
    simp only [Option.map_eq_some_iff, sizeT] at hl
    obtain ⟨n, ⟨i, hi, rfl⟩, rfl⟩ := hl
    simp only [readCells] at h
    split at h
    · rename_i hle
      cases h
      refine ⟨.agg (us.extract off (off + i.size)), by simp [part, isAgg, run_underlying hu, sizeOf, typeInfo, hi], hS _ _ ⟨?_, fun j a u h1 h2 => ?_⟩⟩
      · have := hr.1; simp at this ⊢; omega
      · rw [List.getElem?_take] at h1
        split at h1
        · rename_i hj
          rw [List.getElem?_drop] at h1
          refine hr.2 (off + j) a u h1 ?_
          rw [Array.getElem?_toList] at h2 ⊢
          rw [Array.getElem?_extract] at h2
          split at h2
          · exact h2
          · cases h2
        · cases h1
    · cases h
  · rename_i k e hu
    simp only [Option.map_eq_some_iff, sizeT] at hl
    obtain ⟨n, ⟨i, hi, rfl⟩, rfl⟩ := hl
    simp only [readCells] at h
    split at h
    · rename_i hle
      cases h
      refine ⟨.agg (us.extract off (off + i.size)), by simp [part, isAgg, run_underlying hu, sizeOf, typeInfo, hi], hS _ _ ⟨?_, fun j a u h1 h2 => ?_⟩⟩
      · have := hr.1; simp at this ⊢; omega
      · rw [List.getElem?_take] at h1
        split at h1
        · rename_i hj
          rw [List.getElem?_drop] at h1
          refine hr.2 (off + j) a u h1 ?_
          rw [Array.getElem?_toList] at h2 ⊢
          rw [Array.getElem?_extract] at h2
          split at h2
          · exact h2
          · cases h2
        · cases h1
    · cases h
  · rename_i d hns hna hu
    split at hl
    · cases hl
      simp only [readCells] at h
      obtain ⟨u, h1, h2⟩ := RL_get hr h
      rw [Array.getElem?_toList] at h1
      have hag : (isAgg t).run P w = .ok false w := by
        simp only [isAgg, Sem.run_bind, run_underlying hu, Result.andThen_ok]
        cases d <;> first | rfl | (exact absurd rfl (hns _)) | (exact absurd rfl (hna _ _))
      exact ⟨u, by simp [part, hag, h1], h2⟩
    · cases hl
  · cases hl

theorem asIntOf_sound {a : AV} {v : Value} {n : Int} (h : asInt a = some n) (hv : R C.P N z a v) : ∃ k, v = .int k n := by
  cases a <;> simp [asInt] at h
  subst h; exact ⟨_, R_of_int hv⟩

theorem fieldOff_sound {P : Program} {t : TypeId} {i off : Nat} {u : TypeId} (h : fieldOff P t i = some (off, u)) : ∃ fs f, P.underlying t = some (.struct fs) ∧ fs[i]? = some f ∧ f.offset = off ∧ f.type = u := by
  unfold fieldOff at h
  split at h
  · rename_i fs hu
    simp only [Option.map_eq_some_iff] at h
    obtain ⟨f, h1, h2⟩ := h
    cases h2
    exact ⟨fs, f, hu, h1, rfl, rfl⟩
  · cases h

theorem fld_sound {t u : TypeId} {i off : Nat} {sz : Option Nat} (hf : fieldOff C.P t i = some (off, u)) (hl : loadT C.P u = some sz) {cs : List AV} {x : Value} (hx : R C.P N z (.agg cs) x) {v : AV}
    (h : readCells cs off sz = some v) : ∃ v', (Instr.field t x i).run C.P w = .ok v' w ∧ R C.P N z v v' := by
  obtain ⟨fs, f, h1, h2, rfl, rfl⟩ := fieldOff_sound hf
  obtain ⟨us, rfl, hr⟩ := R_agg.1 hx
  obtain ⟨v', h3, h4⟩ := read_sound (w := w) hl hr h fun cs vs h => R_agg.2 ⟨vs, rfl, h⟩
  exact ⟨v', by simp [Instr.field, run_underlying h1, h2, asAgg, h3], h4⟩

/-- Where an address of the abstract machine lies. -/
theorem addr_sound {x x' : AV} {v : Value} (hx : R C.P N z x v) {off : Nat} (h : addrAt z.m x off = some x') : ∃ b o, v = .pointer (some ⟨b, o, none⟩) ∧ R C.P N z x' (.pointer (some ⟨b, o + off, none⟩)) := by
  cases x <;> simp only [addrAt] at h
  case ptr id ix o =>
    split at h
    · rename_i hl
      cases h
      obtain ⟨es, n, hb⟩ := lsz_isSome hl
      obtain ⟨hid, _, hx⟩ := R_ptr.1 hx
      refine ⟨_, _, hx es n hb, R_ptr.2 ⟨hid, ⟨_, rfl⟩, fun es' n' hb' => ?_⟩⟩
      rw [hb] at hb'; cases hb'; rw [Nat.add_assoc]
    · cases h
  case pv e o =>
    cases h
    obtain ⟨b, o', rfl, ha⟩ := R_pv.1 hx
    exact ⟨b, o' + o, rfl, R_pv.2 ⟨b, o', by rw [Nat.add_assoc], ha⟩⟩
  all_goals cases h
theorem add_none (b o n : Nat) : (⟨b, o, none⟩ : Addr).add n = ⟨b, o + n, none⟩ := by
  unfold Addr.add; split <;> simp_all
theorem fieldAddr_sound {t u : TypeId} {i off n : Nat} (hf : fieldOff C.P t i = some (off, u)) (hs : sizeT C.P u = some n) (hn : n ≠ 0) {x x' : AV} {v : Value} (hx : R C.P N z x v) (h : addrAt z.m x off = some x') :
    ∃ v', (Instr.fieldAt t v i).run C.P w = .ok v' w ∧ R C.P N z x' v' := by
  obtain ⟨fs, f, h1, h2, rfl, rfl⟩ := fieldOff_sound hf
  obtain ⟨b, o, rfl, h3⟩ := addr_sound hx h
  simp only [sizeT, Option.map_eq_some_iff] at hs
  obtain ⟨i', hi, rfl⟩ := hs
  exact ⟨_, by simp [Instr.fieldAt, run_underlying h1, h2, Instr.sureAddr, fieldPlace, sizeOf, typeInfo, hi, hn, add_none], h3⟩

theorem vidx_sound {t e : TypeId} {n sz : Nat} {ld : Option Nat} (ht : C.P.underlying t = some (.array n e)) (hs : sizeT C.P e = some sz) (hl : loadT C.P e = some ld) {x i u : AV} {v iv : Value} (hx : R C.P N z x v) (hi : R C.P N z i iv)
    (h : vidxAt x i n sz ld = some u) : ∃ v', (Instr.index t v iv).run C.P w = .ok v' w ∧ R C.P N z u v' := by
  simp only [sizeT, Option.map_eq_some_iff] at hs
  obtain ⟨i', hi', rfl⟩ := hs
  unfold vidxAt at h
  split at h
  · rename_i cs k q
    split at h
    · rename_i hc
      obtain rfl := R_of_int hi
      obtain ⟨us, rfl, hr⟩ := R_agg.1 hx
      obtain ⟨v', h3, h4⟩ := read_sound (w := w) hl hr h fun cs vs h => R_agg.2 ⟨vs, rfl, h⟩
      exact ⟨v', by simp [Instr.index, asIntOf, run_underlying ht, hc.1, hc.2, sizeOf, typeInfo, hi', h3], h4⟩
    · cases h
  · cases h

theorem aidx_sound {t e : TypeId} {n sz : Nat} (ht : C.P.underlying t = some (.array n e)) (hs : sizeT C.P e = some sz) {x i x' : AV} {v iv : Value} (hx : R C.P N z x v) (hi : R C.P N z i iv)
    (h : aidxAt z.m x i n sz = some x') : ∃ v', (Instr.indexAt t v iv).run C.P w = .ok v' w ∧ R C.P N z x' v' := by
  simp only [sizeT, Option.map_eq_some_iff] at hs
  obtain ⟨i', hi', rfl⟩ := hs
  unfold aidxAt at h
  split at h
  · rename_i id ix off k q
    split at h
    · rename_i hc
      cases h
      obtain rfl := R_of_int hi
      obtain ⟨es, n', hb⟩ := lsz_isSome hc.2
      obtain ⟨hid, _, hx⟩ := R_ptr.1 hx
      have hv := hx es n' hb
      subst hv
      refine ⟨.pointer (some ⟨z.ρ id, ix * n' + off + q.toNat * i'.size, none⟩), by simp [Instr.indexAt, asIntOf, run_underlying ht, Instr.sureAddr, hc.1.1, hc.1.2, sizeOf, typeInfo, hi', add_none], R_ptr.2 ⟨hid, ⟨_, rfl⟩, fun es2 n2 hb2 => ?_⟩⟩
      rw [hb] at hb2; cases hb2; rw [Nat.add_assoc]
    · cases h
  · rename_i e' off k q
    split at h
    · rename_i hc
      cases h
      obtain rfl := R_of_int hi
      obtain ⟨b, o, rfl, ha⟩ := R_pv.1 hx
      exact ⟨.pointer (some ⟨b, o + off + q.toNat * i'.size, none⟩), by simp [Instr.indexAt, asIntOf, run_underlying ht, Instr.sureAddr, hc.1, hc.2, sizeOf, typeInfo, hi', add_none], R_pv.2 ⟨b, o, by rw [Nat.add_assoc], ha⟩⟩
    · cases h
  · cases h
theorem idx_sound {t e : TypeId} {sz : Nat} (ht : C.P.underlying t = some (.slice e)) (hs : sizeT C.P e = some sz) {x i x' : AV} {v iv : Value} (hx : R C.P N z x v) (hi : R C.P N z i iv)
    (h : idxAt z.m x i sz = some x') : ∃ v', (Instr.indexAt t v iv).run C.P w = .ok v' w ∧ R C.P N z x' v' := by
  simp only [sizeT, Option.map_eq_some_iff] at hs
  obtain ⟨i', hi', rfl⟩ := hs
  unfold idxAt at h
  split at h
  · rename_i es tk k q
    split at h
    · rename_i hc
      obtain rfl := R_of_int hi
      simp only [Option.bind_eq_some_iff] at h
      obtain ⟨e', he, h⟩ := h
      split at h
      · rename_i hsz
        cases h
        obtain ⟨a, cap, st, rfl, h1, _, h2, h3, h4, h5⟩ := R_sl.1 hx
        obtain ⟨b, o, rfl, ha⟩ := h4 _ _ he
        have hlt := (List.getElem?_eq_some_iff.1 he).1
        have hst : st = i'.size := (h3 e' (List.mem_of_getElem? he)).symm.trans hsz
        subst hst
        have hq : q < (es.length : Int) := by omega
        exact ⟨.pointer (some ⟨b, o + q.toNat * i'.size, none⟩), by simp [Instr.indexAt, asIntOf, run_underlying ht, hc, hq, sizeOf, typeInfo, hi', add_none], R_pv.2 ⟨b, _, rfl, ha⟩⟩
      · cases h
    · cases h
  · rename_i id off len k q
    split at h
    · rename_i hc
      cases h
      obtain rfl := R_of_int hi
      obtain ⟨es, hb⟩ := lsz_some hc.2
      obtain ⟨hid, _, hx⟩ := R_ref.1 hx
      obtain ⟨cap, rfl, h1, h2, h3⟩ := hx es _ hb
      refine ⟨.pointer (some ⟨z.ρ id, off * i'.size + q.toNat * i'.size, none⟩), by simp [Instr.indexAt, asIntOf, run_underlying ht, hc.1.1, hc.1.2, sizeOf, typeInfo, hi', add_none], R_ptr.2 ⟨hid, ⟨_, rfl⟩, fun es2 n2 hb2 => ?_⟩⟩
      rw [hb] at hb2; cases hb2; rw [Nat.add_mul, Nat.add_zero]
    · cases h
  · cases h
end
end Go.Ab
end

section
/-
  Loads, stores, new memory.
-/
namespace Go.Ab
section
variable {C : Cx} {N : Nat → Nat → Prop} {z : Z} {w : World}

theorem cell_eq (w : World) (b o : Nat) : w.cell? ⟨b, o, none⟩ = cellAt w.heap b o := by
  unfold World.cell? cellAt
  cases w.heap[b]? with
  | none => rfl
  | some x => cases x <;> rfl

/-- The values of a row of cells, as many as there are. -/
def rowAt (h : Array Obj) (b o n : Nat) : List Value := (List.range n).map fun j => (cellAt h b (o + j)).getD undef
theorem rowAt_length (h : Array Obj) (b o n : Nat) : (rowAt h b o n).length = n := by simp [rowAt]
theorem rowAt_get {h : Array Obj} {b o n j : Nat} {u : Value} (e : (rowAt h b o n)[j]? = some u) : j < n ∧ u = (cellAt h b (o + j)).getD undef := by
  have hj : j < n := by have := (List.getElem?_eq_some_iff.1 e).1; simpa [rowAt] using this
  simp [rowAt, hj] at e
  exact ⟨hj, e.symm⟩
theorem rowAt_some {h : Array Obj} {b o n j : Nat} {u : Value} (hj : j < n) (e : cellAt h b (o + j) = some u) : (rowAt h b o n)[j]? = some u := by
  simp [rowAt, hj, e]

theorem load_cells {t : TypeId} {sz : Option Nat} (hl : loadT C.P t = some sz) {e : AV} {b o off : Nat} (hc : ∀ (j : Nat) a, e.cells[j]? = some a → ∃ u, cellAt w.heap b (o + j) = some u ∧ R C.P N z a u) {v : AV}
    (h : readCells e.cells off sz = some v) : ∃ v', (loadVar t ⟨b, o + off, none⟩).run C.P w = .ok v' w ∧ R C.P N z v v' := by
  have agg : ∀ n, off + n ≤ e.cells.length → v = .agg ((e.cells.drop off).take n) → (loadCells ⟨b, o + off, none⟩ n).run C.P w = .ok (rowAt w.heap b (o + off) n).toArray w ∧ R C.P N z v (.agg (rowAt w.heap b (o + off) n).toArray) := by
    intro n hle hv
    have cell : ∀ j, j < n → ∃ a u, e.cells[off + j]? = some a ∧ cellAt w.heap b (o + off + j) = some u ∧ R C.P N z a u := fun j hj => by
      have : off + j < e.cells.length := by omega
      obtain ⟨u, h1, h2⟩ := hc (off + j) _ (List.getElem?_eq_getElem this)
      exact ⟨_, u, List.getElem?_eq_getElem this, by rw [Nat.add_assoc]; exact h1, h2⟩
    constructor
    · have := run_loadCells_list (P := C.P) w ⟨b, o + off, none⟩ (rowAt w.heap b (o + off) n) (fun j u hu => by
        obtain ⟨hj, rfl⟩ := rowAt_get hu
        obtain ⟨a, u, h1, h2, h3⟩ := cell j hj
        rw [add_none, cell_eq, h2]; rfl)
      rwa [rowAt_length] at this
    · rw [hv]
      refine R_agg.2 ⟨_, rfl, by simp [rowAt_length]; omega, fun j a u h1 h2 => ?_⟩
      rw [List.getElem?_take] at h1
      split at h1
      · rename_i hj
        rw [List.getElem?_drop] at h1
        obtain ⟨a', u', h3, h4, h5⟩ := cell j hj
        rw [h1] at h3; cases h3
        obtain ⟨_, rfl⟩ := rowAt_get h2
        rw [h4]; exact h5
      · cases h1
  unfold loadT at hl
  split at hl
  · rename_i fs hu
    simp only [Option.map_eq_some_iff, sizeT] at hl
    obtain ⟨n, ⟨i, hi, rfl⟩, rfl⟩ := hl
    simp only [readCells] at h
    split at h
    · rename_i hle
      cases h
      obtain ⟨h1, h2⟩ := agg i.size hle rfl
      exact ⟨_, by simp [loadVar, isAgg, run_underlying hu, sizeOf, typeInfo, hi, h1], h2⟩
    · cases h
  · rename_i k e' hu
    simp only [Option.map_eq_some_iff, sizeT] at hl
    obtain ⟨n, ⟨i, hi, rfl⟩, rfl⟩ := hl
    simp only [readCells] at h
    split at h
    · rename_i hle
      cases h
      obtain ⟨h1, h2⟩ := agg i.size hle rfl
      exact ⟨_, by simp [loadVar, isAgg, run_underlying hu, sizeOf, typeInfo, hi, h1], h2⟩
    · cases h
  · rename_i d hns hna hu
    split at hl
    · cases hl
      simp only [readCells] at h
      obtain ⟨u, h1, h2⟩ := hc off v h
      have hag : (isAgg t).run C.P w = .ok false w := by
        simp only [isAgg, Sem.run_bind, run_underlying hu, Result.andThen_ok]
        cases d <;> first | rfl | (exact absurd rfl (hns _)) | (exact absurd rfl (hna _ _))
      refine ⟨u, ?_, h2⟩
      simp only [loadVar, Sem.run_bind, hag, Result.andThen_ok, Bool.false_eq_true, if_false]
      rw [run_load, cell_eq, h1]
    · cases hl
  · cases hl

theorem load_sound (hG : Good C N z) (hh : z.h = w.heap) {t : TypeId} {sz : Option Nat} (hl : loadT C.P t = some sz) {x v : AV} {xv : Value} (hx : R C.P N z x xv) (h : loadAt z.m x sz = some v) :
    ∃ v', (Instr.loadAt t xv).run C.P w = .ok v' w ∧ R C.P N z v v' := by
  unfold loadAt at h
  split at h
  · rename_i id ix off
    split at h
    · rename_i es n hb
      split at h
      · rename_i e he
        obtain ⟨hid, _, hx⟩ := R_ptr.1 hx
        have hv := hx es n hb
        subst hv
        obtain ⟨cs, T, h1, h2, h3⟩ := hG.live id es n hb
        obtain ⟨v', h4, h5⟩ := load_cells (w := w) (b := z.ρ id) (o := ix * n) (N := N) (z := z) hl (fun j a ha => by
          obtain ⟨u, h6, _, h7⟩ := (h3 ix e he).2 j a ha
          refine ⟨u, ?_, h7⟩
          rw [← hh]; unfold cellAt; rw [h1]; exact h6) h
        exact ⟨v', by simp [Instr.loadAt, Instr.sureAddr, h4], h5⟩
      · cases h
    · cases h
  · rename_i e off
    obtain ⟨b, o, rfl, ha⟩ := R_pv.1 hx
    obtain ⟨v', h4, h5⟩ := load_cells (w := w) (b := b) (o := o) (N := N) (z := z) hl (fun j a hj => by
      obtain ⟨u, h6, _, _, h7⟩ := ha j a hj
      exact ⟨u, by rw [← hh]; exact h6, h7⟩) h
    exact ⟨v', by simp [Instr.loadAt, Instr.sureAddr, h4], h5⟩
  · cases h

/-! ### The cells of a value -/
theorem solid_one {a : AV} {u : Value} (ha : a.solid = true) (hu : R C.P N z a u) : u.oneCell' = true ∧ u.cells = #[u] ∧ a.cells = [a] := by
  cases a with
  | undef => cases ha
  | agg cs => cases ha
  | tup cs => cases ha
  | bool b => rw [R_of_bool hu]; exact ⟨rfl, rfl, rfl⟩
  | int k n => rw [R_of_int hu]; exact ⟨rfl, rfl, rfl⟩
  | str b => rw [R_of_str hu]; exact ⟨rfl, rfl, rfl⟩
  | nilf => rw [R_nilf.1 hu]; exact ⟨rfl, rfl, rfl⟩
  | nilp => rw [R_nilp.1 hu]; exact ⟨rfl, rfl, rfl⟩
  | nilm => rw [R_nilm.1 hu]; exact ⟨rfl, rfl, rfl⟩
  | sl es tk => obtain ⟨_, _, _, rfl, _⟩ := R_sl.1 hu; exact ⟨rfl, rfl, rfl⟩
  | ref a b c => obtain ⟨_, ⟨_, _, _, rfl⟩, _⟩ := R_ref.1 hu; exact ⟨rfl, rfl, rfl⟩
  | ptr a b c => obtain ⟨_, ⟨_, rfl⟩, _⟩ := R_ptr.1 hu; exact ⟨rfl, rfl, rfl⟩
  | pv e o => obtain ⟨_, _, rfl, _⟩ := R_pv.1 hu; exact ⟨rfl, rfl, rfl⟩
  | fn f a b => obtain ⟨_, _, rfl, _⟩ := R_fn.1 hu; exact ⟨rfl, rfl, rfl⟩
  | yld n => obtain ⟨_, rfl⟩ := R_yld.1 hu; exact ⟨rfl, rfl, rfl⟩
  | mp n => obtain ⟨_, rfl⟩ := R_mp.1 hu; exact ⟨rfl, rfl, rfl⟩
  | itr n => obtain ⟨_, rfl⟩ := R_itr.1 hu; exact ⟨rfl, rfl, rfl⟩
  | aps a b c n => cases ha
theorem cells_sound {v : AV} {x : Value} (h : R C.P N z v x) (hs : v.solids = true) : RL (fun a u => R C.P N z a u ∧ u.oneCell' = true) v.cells x.cells.toList := by
  unfold AV.solids at hs
  by_cases hv : v.isAgg' = true
  · cases v <;> first | cases hv | skip
    rename_i cs
    obtain ⟨us, rfl, hr⟩ := R_agg.1 h
    refine ⟨hr.1, fun i a u h1 h2 => ⟨hr.2 i a u h1 h2, ?_⟩⟩
    exact (solid_one (List.all_eq_true.1 hs a (List.mem_of_getElem? h1)) (hr.2 i a u h1 h2)).1
  · have hc : v.cells = [v] := by cases v <;> first | rfl | exact absurd rfl hv
    rw [hc] at hs
    obtain ⟨h1, h2, _⟩ := solid_one (by simpa using hs) h
    rw [hc, h2]
    refine ⟨rfl, fun i a u h3 h4 => ?_⟩
    cases i with
    | zero => simp at h3 h4; subst h3; subst h4; exact ⟨h, h1⟩
    | succ i => simp at h3

/-! ### New memory -/
theorem newVar_sound (hG : Good C N z) (hh : z.h = w.heap) {e : TypeId} {v : AV} {x : Value} {n : Nat} (hx : R C.P N z v x) (hs : v.solids = true) (hn : v.cells.length = n) :
    ∃ (w' : World) (z' : Z), (newVar e x).run C.P w = .ok ⟨w.heap.size, 0, none⟩ w' ∧ R C.P N z' (.ptr z.m.blks.length 0 0) (.pointer (some ⟨w.heap.size, 0, none⟩)) ∧ Good C N z' ∧ Tr C.P N z z' ∧ z'.h = w'.heap ∧ z'.m = newBlk z.m [v] n ∧ WS w w' := by
  have hc := cells_sound hx hs
  refine ⟨w.alloc (.cells x.cells e), z.grow (.cells x.cells e) (.live [v] n), by simp [newVar, newRow], ?_, grow_good hG (fun es sz hk => ?_) (fun _ _ _ _ _ _ hk => by cases hk), grow_tr hG _ _, ?_, rfl, ⟨rfl, rfl, rfl⟩⟩
  · refine R_ptr.2 ⟨by simp [Z.grow], ⟨_, rfl⟩, fun es sz hb => ?_⟩
    simp only [Z.grow, if_true, hh, Nat.zero_mul, Nat.zero_add]
  · cases hk
    refine ⟨x.cells, e, rfl, ?_, fun i e' he => ?_⟩
    · have := hc.1; simp at this ⊢; omega
    · cases i with
      | succ i => simp at he
      | zero =>
        simp at he; subst he
        refine ⟨hn, fun j a ha => ?_⟩
        obtain ⟨u, h1, h2, h3⟩ := RL_get hc ha
        rw [Array.getElem?_toList] at h1
        exact ⟨u, by simpa using h1, h3, h2⟩
  · show z.h.push _ = _; rw [hh]; rfl
theorem box_sound (hG : Good C N z) (hh : z.h = w.heap) {e : TypeId} {v : AV} {x : Value} {n : Nat} (hx : R C.P N z v x) (hs : v.solids = true) (hn : v.cells.length = n) {r : Sem Value} (hr : r = Instr.box e x) :
    OpRes C N z (newBlk z.m [v] n) (.ptr z.m.blks.length 0 0) w ((do pure (.value (← r)) : Sem Next).run C.P w) := by
  obtain ⟨w', z', h1, h2, h3, h4, h5, h6, h7⟩ := newVar_sound (w := w) (e := e) hG hh hx hs hn
  exact ⟨_, w', z', .inl (by simp [hr, Instr.box, h1]), h2, h3, h4, h5, h6, h7⟩
theorem zeroT_sound {e : TypeId} {v : AV} (h : zeroT C.P e = some v) : ∃ x, (zeroValue e).run C.P w = .ok x w ∧ R C.P N z v x := by
  simp only [zeroT, Option.bind_eq_some_iff] at h
  obtain ⟨i, hi, x, hx, h⟩ := h
  exact ⟨x, by simp [zeroValue, typeInfo, hi, hx], trVal_sound h⟩
theorem alloc_sound (hG : Good C N z) (hh : z.h = w.heap) {e : TypeId} {v : AV} {n : Nat} (hz : zeroT C.P e = some v) (hs : v.solids = true) (hn : v.cells.length = n) :
    OpRes C N z (newBlk z.m [v] n) (.ptr z.m.blks.length 0 0) w ((do pure (.value (← Instr.alloc e true (.tuple #[]))) : Sem Next).run C.P w) := by
  obtain ⟨x, hx, hr⟩ := zeroT_sound (w := w) (N := N) (z := z) hz
  obtain ⟨w', z', h1, h2, h3, h4, h5, h6, h7⟩ := newVar_sound (w := w) (e := e) hG hh hr hs hn
  exact ⟨_, w', z', .inl (by simp [Instr.alloc, hx, h1]), h2, h3, h4, h5, h6, h7⟩
end
end Go.Ab
end

section
/-
  Stores, literals, made slices.
-/
namespace Go.Ab

theorem splice_get {α : Type} (l us : List α) (p k : Nat) (h : p + us.length ≤ l.length) :
    (l.take p ++ us ++ l.drop (p + us.length))[k]? = if k < p then l[k]? else if k < p + us.length then us[k - p]? else l[k]? := by
  have hp : (l.take p).length = p := by simp; omega
  by_cases h1 : k < p
  · rw [if_pos h1, List.append_assoc, List.getElem?_append_left (by omega), List.getElem?_take, if_pos h1]
  · rw [if_neg h1, List.append_assoc, List.getElem?_append_right (by omega), hp]
    by_cases h2 : k < p + us.length
    · rw [if_pos h2, List.getElem?_append_left (by omega)]
    · rw [if_neg h2, List.getElem?_append_right (by omega), List.getElem?_drop]
      congr 1; omega
theorem splice_length {α : Type} (l us : List α) (p : Nat) (h : p + us.length ≤ l.length) : (l.take p ++ us ++ l.drop (p + us.length)).length = l.length := by
  simp; omega

theorem setRow_heap_eq {w : World} {g : Nat} {cur cs : Array Value} {T : TypeId} (h : w.heap[g]? = some (.cells cur T (0, 0))) : (w.setRow g cs).heap = w.heap.setIfInBounds g (.cells cs T (0, 0)) := by
  have hlt := (Array.getElem?_eq_some_iff.1 h).1
  refine Array.ext_getElem? fun i => ?_
  by_cases hi : i = g
  · subst hi; rw [setRow_heap w i cur cs T (0, 0) h]; simp [hlt]
  · rw [setRow_other w g i cs hi, Array.getElem?_setIfInBounds_ne (Ne.symm hi)]

theorem mul_slot {i k n j : Nat} (h : i < k) (hj : j < n) : i * n + j < k * n := by
  have : (i + 1) * n ≤ k * n := Nat.mul_le_mul_right _ h
  rw [Nat.add_mul, Nat.one_mul] at this
  omega

section
variable {C : Cx} {N : Nat → Nat → Prop} {z : Z} {w : World}

theorem write_cells {e e' : AV} {off : Nat} {new : List AV} (h : writeCells e off new = some e') (hn : new.all AV.solid = true) :
    off + new.length ≤ e.cells.length ∧ e'.cells.length = e.cells.length ∧ ∀ (j : Nat), e'.cells[j]? = if j < off then e.cells[j]? else if j < off + new.length then new[j - off]? else e.cells[j]? := by
  unfold writeCells at h
  split at h
  · rename_i cs
    split at h
    · rename_i hle
      cases h
      exact ⟨hle, splice_length cs new off hle, fun j => splice_get cs new off j hle⟩
    · cases h
  · rename_i hna
    have hc : e.cells = [e] := by cases e <;> first | rfl | exact absurd rfl (hna _)
    split at h
    · rename_i v0
      obtain rfl : v0 = e' := Option.some.inj h
      have hv : v0.cells = [v0] := by
        cases v0 <;> first | rfl | (simp [AV.solid] at hn)
      rw [hc, hv]
      refine ⟨by simp, rfl, fun j => ?_⟩
      cases j with
      | zero => simp
      | succ j => simp
    · cases h

/-- Cells are written into an element of a block. -/
theorem put_cells (hG : Good C N z) (hh : z.h = w.heap) {id n : Nat} {es : List AV} (hb : z.m.blks[id]? = some (.live es n)) {ix : Nat} {e : AV} (he : es[ix]? = some e) {off : Nat} {new : List AV} {e' : AV} (hw : writeCells e off new = some e') (hs : new.all AV.solid = true)
    {L : List Value} (hc : RL (fun a u => R C.P N z a u ∧ u.oneCell' = true) new L) : ∃ cs' T, (storeCells ⟨z.ρ id, ix * n + off, none⟩ L).run C.P w = .ok () (w.setRow (z.ρ id) cs') ∧ Good C N (z.putB id (.live (es.set ix e') n) (.cells cs' T (0, 0))) ∧
      Tr C.P N z (z.putB id (.live (es.set ix e') n) (.cells cs' T (0, 0))) ∧ (z.putB id (.live (es.set ix e') n) (.cells cs' T (0, 0))).h = (w.setRow (z.ρ id) cs').heap := by
  obtain ⟨cs, T, h1, h2, h3⟩ := hG.live id es n hb
  obtain ⟨hw1, hw2, hw3⟩ := write_cells hw hs
  have hen := (h3 ix e he).1
  have hix := (List.getElem?_eq_some_iff.1 he).1
  have hxl : L.length = new.length := hc.1.symm
  have hfit : ix * n + off + L.length ≤ cs.size := by
    have h5 : (ix + 1) * n ≤ es.length * n := Nat.mul_le_mul_right _ hix
    rw [Nat.add_mul, Nat.one_mul] at h5
    omega
  have h1w : w.heap[z.ρ id]? = some (.cells cs T (0, 0)) := by rw [← hh]; exact h1
  have hst := run_storeCells_at C.P (z.ρ id) (ix * n + off) T L 0 cs w h1w (by simpa using hfit) (fun u hu => by
    obtain ⟨i, hi⟩ := List.mem_iff_getElem?.1 hu
    have hil : i < new.length := by rw [hc.1]; exact (List.getElem?_eq_some_iff.1 hi).1
    exact (hc.2 i _ u (List.getElem?_eq_getElem hil) hi).2)
  simp only [Nat.add_zero] at hst
  obtain ⟨cs', hcs'⟩ : ∃ cs', cs' = (cs.toList.take (ix * n + off) ++ L ++ cs.toList.drop (ix * n + off + L.length)).toArray := ⟨_, rfl⟩
  rw [← hcs'] at hst
  have hsz2 : cs'.size = cs.size := by rw [hcs']; simpa using splice_length cs.toList L (ix * n + off) (by simpa using hfit)
  have hget : ∀ k, cs'[k]? = if k < ix * n + off then cs[k]? else if k < ix * n + off + L.length then L[k - (ix * n + off)]? else cs[k]? := fun k => by
    rw [hcs']
    have := splice_get cs.toList L (ix * n + off) k (by simpa using hfit)
    simpa using this
  have hgood := putB_good (N := N) hG hb h1 hsz2 (k := .live (es.set ix e') n) (.inr ⟨_, rfl, by rw [hsz2]; simpa using h2, fun i e2 hi => by
    rcases get_set hi with ⟨rfl, rfl, _⟩ | ⟨hne, hi⟩
    · refine ⟨hw2.trans hen, fun j a ha => ?_⟩
      rw [hw3] at ha
      by_cases hj1 : j < off
      · rw [if_pos hj1] at ha
        obtain ⟨u, h5, h6, h7⟩ := (h3 i e he).2 j a ha
        exact ⟨u, by rw [hget, if_pos (by omega)]; exact h5, h6, h7⟩
      · rw [if_neg hj1] at ha
        by_cases hj2 : j < off + new.length
        · rw [if_pos hj2] at ha
          obtain ⟨u, h5, h6, h7⟩ := RL_get hc ha
          exact ⟨u, by rw [hget, if_neg (by omega), if_pos (by omega)]; rw [show i * n + j - (i * n + off) = j - off by omega]; exact h5, h7, h6⟩
        · rw [if_neg hj2] at ha
          obtain ⟨u, h5, h6, h7⟩ := (h3 i e he).2 j a ha
          exact ⟨u, by rw [hget, if_neg (by omega), if_neg (by omega)]; exact h5, h6, h7⟩
    · refine ⟨(h3 i e2 hi).1, fun j a ha => ?_⟩
      obtain ⟨u, h5, h6, h7⟩ := (h3 i e2 hi).2 j a ha
      have hjn : j < n := by have := (List.getElem?_eq_some_iff.1 ha).1; have := (h3 i e2 hi).1; omega
      refine ⟨u, ?_, h6, h7⟩
      rw [hget]
      rcases Nat.lt_or_ge i ix with hlt | hge
      · have := mul_slot hlt hjn; rw [if_pos (by omega)]; exact h5
      · have hlt : ix < i := by omega
        have h8 : (ix + 1) * n ≤ i * n := Nat.mul_le_mul_right _ hlt
        rw [Nat.add_mul, Nat.one_mul] at h8
        rw [if_neg (by omega), if_neg (by omega)]; exact h5⟩)
  refine ⟨cs', T, hst, hgood, putB_tr hG hb h1 hsz2 (.inr ⟨_, rfl⟩), ?_⟩
  rw [setRow_heap_eq h1w, ← hh]; rfl
theorem store_sound (hG : Good C N z) (hh : z.h = w.heap) {t : TypeId} {sz : Nat} (hs : sizeT C.P t = some sz) {p v : AV} {pv x : Value} (hp : R C.P N z p pv) (hx : R C.P N z v x) {m' : Mem} (h : storeAt z.m p v sz = some m') :
    OpRes C N z m' .undef w ((do Instr.storeAt t pv x; pure .skip : Sem Next).run C.P w) := by
  unfold storeAt at h
  split at h
  · rename_i id ix off
    split at h
    · rename_i es n hb
      split at h
      · rename_i e he
        split at h
        · rename_i hsz
          simp only [Option.map_eq_some_iff] at h
          obtain ⟨e', hw, rfl⟩ := h
          obtain ⟨hid, _, hp⟩ := R_ptr.1 hp
          have hpv := hp es n hb
          subst hpv
          have hc := cells_sound hx hsz.2
          obtain ⟨cs', T, hst, hgood, htr, hhp⟩ := put_cells (w := w) hG hh hb he hw hsz.2 hc
          simp only [sizeT, Option.map_eq_some_iff] at hs
          obtain ⟨i', hi', hsz'⟩ := hs
          refine ⟨undef, w.setRow (z.ρ id) cs', z.putB id (.live (es.set ix e') n) (.cells cs' T (0, 0)), .inr ⟨?_, rfl⟩, R_undef _, hgood, htr, hhp, rfl, ⟨rfl, rfl, rfl⟩⟩
          have hsize : x.cells.size = i'.size := by rw [hsz']; have h8 := hsz.1; rw [hc.1] at h8; simpa using h8
          simp [Instr.storeAt, Instr.sureAddr, storeVar, sizeOf, typeInfo, hi', hsize, hst]
        · cases h
      · cases h
    · cases h
  · cases h
end
end Go.Ab
end

section
/-
  Composite literals.
-/
namespace Go.Ab

theorem setAll_get (off : Nat) : ∀ (vs : List Value) (s : Nat) (cs : Array Value), off + s + vs.length ≤ cs.size →
    ((vs.zipIdx s).foldl (fun cs (c, j) => cs.setIfInBounds (off + j) c) cs).size = cs.size ∧
    ∀ k, ((vs.zipIdx s).foldl (fun cs (c, j) => cs.setIfInBounds (off + j) c) cs)[k]? = if k < off + s then cs[k]? else if k < off + s + vs.length then vs[k - (off + s)]? else cs[k]?
  | [], s, cs, _ => ⟨rfl, fun k => by simp only [List.zipIdx_nil, List.foldl_nil, List.length_nil, Nat.add_zero]; split <;> first | rfl | (split <;> first | rfl | omega)⟩
  | v :: vs, s, cs, h => by
    simp only [List.zipIdx_cons, List.foldl_cons]
    obtain ⟨h1, h2⟩ := setAll_get off vs (s + 1) (cs.setIfInBounds (off + s) v) (by simp at h ⊢; omega)
    refine ⟨by rw [h1]; simp, fun k => ?_⟩
    rw [h2 k]
    simp only [List.length_cons] at h ⊢
    by_cases k1 : k < off + s
    · rw [if_pos (by omega), if_pos k1, Array.getElem?_setIfInBounds_ne (by omega)]
    · rw [if_neg k1]
      by_cases k2 : k = off + s
      · subst k2
        rw [if_pos (by omega), if_pos (by omega)]
        rw [Nat.sub_self, List.getElem?_cons_zero]
        exact Array.getElem?_setIfInBounds_self_of_lt (by omega)
      · rw [if_neg (by omega)]
        by_cases k3 : k < off + s + (vs.length + 1)
        · rw [if_pos (by omega), if_pos k3, show k - (off + s) = (k - (off + (s + 1))) + 1 by omega, List.getElem?_cons_succ]
        · rw [if_neg (by omega), if_neg k3, Array.getElem?_setIfInBounds_ne (by omega)]
theorem setAll_array (off : Nat) (vs cs : Array Value) (h : off + vs.size ≤ cs.size) :
    (vs.zipIdx.foldl (fun cs (c, j) => cs.setIfInBounds (off + j) c) cs).size = cs.size ∧
    ∀ k, (vs.zipIdx.foldl (fun cs (c, j) => cs.setIfInBounds (off + j) c) cs)[k]? = if k < off then cs[k]? else if k < off + vs.size then vs[k - off]? else cs[k]? := by
  have := setAll_get off vs.toList 0 cs (by simpa using h)
  rw [← Array.foldl_toList, Array.toList_zipIdx]
  simpa using this

theorem fill_rows (sz : Nat) : ∀ (vs : List Value) (k : Nat) (cells : Array Value), (∀ v ∈ vs, v.cells.size = sz) → (k + vs.length) * sz ≤ cells.size →
    ∃ cs, Instr.fill (fun i => some (i * sz, sz)) cells ((List.range' k vs.length).zip vs) = some cs ∧ cs.size = cells.size ∧ (∀ o, o < k * sz → cs[o]? = cells[o]?) ∧
      ∀ (i : Nat) v, vs[i]? = some v → ∀ j, j < sz → cs[(k + i) * sz + j]? = v.cells[j]?
  | [], k, cells, _, _ => ⟨cells, by simp [Instr.fill], rfl, fun _ _ => rfl, fun i v h => by simp at h⟩
  | v :: vs, k, cells, hv, hc => by
    have hvs := hv v (by simp)
    have h1 : (k + 1) * sz ≤ cells.size := Nat.le_trans (Nat.mul_le_mul_right _ (by simp)) hc
    rw [Nat.add_mul, Nat.one_mul] at h1
    obtain ⟨g1, g2⟩ := setAll_array (k * sz) v.cells cells (by omega)
    obtain ⟨cs, e1, e2, e3, e4⟩ := fill_rows sz vs (k + 1) _ (fun u hu => hv u (by simp [hu])) (by rw [g1]; simpa [Nat.add_assoc, Nat.add_comm 1] using hc)
    refine ⟨cs, ?_, e2.trans g1, fun o ho => ?_, fun i u hu j hj => ?_⟩
    · simp only [List.length_cons, List.range'_succ, List.zip_cons_cons, Instr.fill]
      rw [if_neg (by simp [hvs]; omega)]
      exact e1
    · rw [e3 o (by rw [Nat.add_mul]; omega), g2, if_pos ho]
    · cases i with
      | zero =>
        simp at hu; subst hu
        rw [Nat.add_zero, e3 _ (by rw [Nat.add_mul, Nat.one_mul]; omega), g2, if_neg (by omega), if_pos (by omega), Nat.add_sub_cancel_left]
      | succ i =>
        have := e4 i u (by simpa using hu) j hj
        rw [show k + (i + 1) = k + 1 + i by omega]; exact this

section
variable {C : Cx} {N : Nat → Nat → Prop} {z : Z} {w : World}

/-- A row that is new: its elements' cells. -/
theorem rows_of {es : List AV} {sz : Nat} {vs : List Value} {cs : Array Value} (hl : es.length = vs.length) (hr : ∀ (i : Nat) e v, es[i]? = some e → vs[i]? = some v → R C.P N z e v ∧ e.solids = true ∧ e.cells.length = sz)
    (hc : ∀ (i : Nat) v, vs[i]? = some v → ∀ j, j < sz → cs[i * sz + j]? = v.cells[j]?) :
    ∀ (i : Nat) e, es[i]? = some e → e.cells.length = sz ∧ ∀ (j : Nat) a, e.cells[j]? = some a → ∃ u, cs[i * sz + j]? = some u ∧ u.oneCell' = true ∧ R C.P N z a u := by
  intro i e he
  have hi : i < vs.length := by have := (List.getElem?_eq_some_iff.1 he).1; omega
  obtain ⟨h1, h2, h3⟩ := hr i e _ he (List.getElem?_eq_getElem hi)
  refine ⟨h3, fun j a ha => ?_⟩
  obtain ⟨u, h4, h5, h6⟩ := RL_get (cells_sound h1 h2) ha
  have hj : j < sz := by have := (List.getElem?_eq_some_iff.1 ha).1; omega
  rw [Array.getElem?_toList] at h4
  exact ⟨u, (hc i _ (List.getElem?_eq_getElem hi) j hj).trans h4, h6, h5⟩

theorem tr_push (z : Z) (o : Obj) (hG : Good C N z) : Tr C.P N z { z with h := z.h.push o } where
  size := by simp
  cell := fun b j u h _ => by show cellAt (z.h.push o) b j = _; rw [cellAt_push (cellAt_lt h)]; exact h
  forb := fun _ _ _ hx => hx
  other := fun b hb _ => get_push_lt hb
  own := fun _ _ h => h
  blks := Nat.le_refl _
  rho := fun _ _ => rfl
  live := fun id _ es sz h => ⟨⟨es, h⟩, csize_push (hG.rho_lt h (by simp))⟩
  toks := Nat.le_refl _
  tok := fun t _ n T h => ⟨n, h, Nat.le_refl _, fun _ => ⟨rfl, csize_push (hG.tau_lt h)⟩⟩
  loops := fun b l h => ⟨l, by show (z.h.push o)[b]? = _; rw [get_push_lt (Array.getElem?_eq_some_iff.1 h).1]; exact h⟩
theorem good_push (o : Obj) (hG : Good C N z) : Good C N { z with h := z.h.push o } := by
  have hT := tr_push (N := N) z o hG
  constructor
  · intro id es sz h
    obtain ⟨cs, T, h2, h3, h4⟩ := hG.live id es sz h
    exact ⟨cs, T, (get_push_lt (hG.rho_lt h (by simp))).trans h2, h3, fun i e he => ⟨(h4 i e he).1, fun j a ha => let ⟨u, h5, h6, h7⟩ := (h4 i e he).2 j a ha; ⟨u, h5, h6, R_step hT h7⟩⟩⟩
  · intro t n T h
    obtain ⟨cs, cap, h1, h2⟩ := hG.tok t n T h
    exact ⟨cs, cap, (get_push_lt (hG.tau_lt h)).trans h1, h2⟩
  · exact hG.rr
  · exact hG.rt
  · exact hG.tt
  · exact hG.nl
  · exact hG.nt
  · intro b o' hn; have := hG.no b o' hn; simp; omega
  · intro id env ps asg body rdy pend h
    obtain ⟨L, h2, h3, h4, h5, h6, h6', h7, h8, h9⟩ := hG.lp id env ps asg body rdy pend h
    exact ⟨L, (get_push_lt (hG.rho_lt h (by simp))).trans h2, h3, h4, h5, h6, h6', fun t => R_step hT (h7 t), h8, h9⟩
  · intro g e h; exact R_step hT (hG.glob g e h)
  · intro id kvs ek h
    obtain ⟨es, clock, h2, h3⟩ := hG.mp id kvs ek h
    exact ⟨es, clock, (get_push_lt (hG.rho_lt h (by simp))).trans h2, h3.step hT⟩
/-- A slice's value over a new row that nobody may write. -/
theorem new_sl (hG : Good C N z) {es : List AV} {sz : Nat} {cs : Array Value} {T : TypeId} {cap : Nat} (hcap : es.length ≤ cap) (hm : cap ≤ maxLen) (htight : cap = es.length)
    (hc : ∀ (i : Nat) e, es[i]? = some e → e.cells.length = sz ∧ ∀ (j : Nat) a, e.cells[j]? = some a → ∃ u, cs[i * sz + j]? = some u ∧ u.oneCell' = true ∧ R C.P N z a u) :
    R C.P N { z with h := z.h.push (.cells cs T (0, 0)) } (.sl es .tight) (.slice (some ⟨z.h.size, 0, none⟩) es.length cap) := by
  have hT := tr_push (N := N) z (.cells cs T (0, 0)) hG
  refine R_sl.2 ⟨_, cap, sz, rfl, hcap, hm, (fun h => by cases h), fun e he => ?_, fun i e he => ⟨z.h.size, 0, rfl, fun j a ha => ?_⟩, htight⟩
  · obtain ⟨i, hi⟩ := List.mem_iff_getElem?.1 he
    exact (hc i e hi).1
  · obtain ⟨u, h1, h2, h3⟩ := (hc i e he).2 j a ha
    refine ⟨u, ?_, ?_, h2, R_step hT h3⟩
    · unfold cellAt; simp [h1]
    · rintro (hx | ⟨id, es', sz', h4, h5⟩ | ⟨t, n, T', h4, h5, _⟩)
      · have := hG.no _ _ hx; omega
      · have := hG.rho_lt h4 (by simp); simp only at h5; omega
      · have := hG.tau_lt h4; simp only at h5; omega

/-- A new variable that nobody changes. -/
theorem boxf_sound (hG : Good C N z) (hh : z.h = w.heap) {e : TypeId} {v : AV} {x : Value} (hx : R C.P N z v x) (hs : v.solids = true) {r : Sem Value} (hr : r = Instr.box e x) :
    OpRes C N z z.m (.pv v 0) w ((do pure (.value (← r)) : Sem Next).run C.P w) := by
  have hc := cells_sound hx hs
  have hT := tr_push (N := N) z (.cells x.cells e) hG
  have h1 : (newVar e x).run C.P w = .ok ⟨w.heap.size, 0, none⟩ (w.alloc (.cells x.cells e)) := by simp [newVar, newRow]
  refine ⟨.pointer (some ⟨w.heap.size, 0, none⟩), w.alloc (.cells x.cells e), { z with h := z.h.push (.cells x.cells e) }, .inl (by simp [hr, Instr.box, h1]), ?_, good_push _ hG, hT, ?_, rfl, ⟨rfl, rfl, rfl⟩⟩
  · refine R_pv.2 ⟨w.heap.size, 0, by simp, fun j a ha => ?_⟩
    obtain ⟨u, h2, h3, h4⟩ := RL_get hc ha
    rw [Array.getElem?_toList] at h2
    refine ⟨u, ?_, ?_, h4, R_step hT h3⟩
    · rw [← hh]; unfold cellAt; simp [h2]
    · rw [← hh]
      rintro (hx' | ⟨id, es', sz', h4', h5⟩ | ⟨t, n, T', h4', h5, _⟩)
      · have := hG.no _ _ hx'; omega
      · have := hG.rho_lt h4' (by simp); simp only at h5; omega
      · have := hG.tau_lt h4'; simp only at h5; omega
  · show z.h.push _ = _; rw [hh]; rfl
theorem lit_sound {t e : TypeId} (ht : C.P.underlying t = some (.slice e)) {sz : Nat} (hs : sizeT C.P e = some sz) {es : List AV} {vs : List Value} {n : Nat} {parts : Array (Nat × Value)}
    (hp : parts.toList = (List.range n).zip vs) (hn : vs.length = n) (hl : es.length = n) (h0 : n * sz ≤ 16777216) (hsz : sz ≠ 0) (hz : n ≠ 0 → ∃ z0, zeroT C.P e = some z0)
    (hr : ∀ (i : Nat) e v, es[i]? = some e → vs[i]? = some v → R C.P N z e v ∧ e.solids = true ∧ e.cells.length = sz) :
    ∃ (cs : Array Value), (Instr.buildSlice t n parts).run C.P w = .ok (.slice (some ⟨w.heap.size, 0, none⟩) n n) (w.alloc (.cells cs e)) ∧ cs.size = n * sz ∧
      ∀ (i : Nat) e, es[i]? = some e → e.cells.length = sz ∧ ∀ (j : Nat) a, e.cells[j]? = some a → ∃ u, cs[i * sz + j]? = some u ∧ u.oneCell' = true ∧ R C.P N z a u := by
  simp only [sizeT, Option.map_eq_some_iff] at hs
  obtain ⟨i', hi', rfl⟩ := hs
  have hvs : ∀ v ∈ vs, v.cells.size = i'.size := fun v hv => by
    obtain ⟨i, hi⟩ := List.mem_iff_getElem?.1 hv
    have hlt : i < es.length := by have := (List.getElem?_eq_some_iff.1 hi).1; omega
    obtain ⟨h1, h2, h3⟩ := hr i _ v (List.getElem?_eq_getElem hlt) hi
    have := (cells_sound h1 h2).1
    simp at this; omega
  have hbig : ¬(16777216 < n * i'.size) := by omega
  by_cases hn0 : n = 0
  · subst hn0
    have hv0 : vs = [] := List.eq_nil_of_length_eq_zero hn
    subst hv0
    refine ⟨#[], ?_, by simp, fun i e he => ?_⟩
    · have hr0 : ∀ f : Nat → Value, Array.map f (Array.range 0) = #[] := fun f => by simp
      simp [Instr.buildSlice, run_underlying ht, sizeOf, typeInfo, hi', hp, Instr.fill, newRow, hr0]
    · have := (List.getElem?_eq_some_iff.1 he).1; omega
  · obtain ⟨z0, hz0⟩ := hz hn0
    obtain ⟨x0, hx0, _⟩ := zeroT_sound (w := w) (N := N) (z := z) hz0
    obtain ⟨cs, e1, e2, _, e4⟩ := fill_rows i'.size vs 0 ((Array.range (n * i'.size)).map (x0.cells[· % x0.cells.size]!)) hvs (by simp [hn])
    rw [← List.range_eq_range', hn, ← hp] at e1
    have hne : n * i'.size ≠ 0 := by
      intro h; rcases Nat.mul_eq_zero.1 h with h | h
      · exact hn0 h
      · exact hsz h
    refine ⟨cs, ?_, by simpa using e2, rows_of (by omega) hr fun i v hv j hj => by have := e4 i v hv j hj; rwa [Nat.zero_add] at this⟩
    simp [Instr.buildSlice, run_underlying ht, sizeOf, typeInfo, hi', hbig, hne, hx0, e1, newRow]
end
end Go.Ab
end

section
/-
  Slices: their elements, and appends.
-/
namespace Go.Ab
section
variable {C : Cx} {N : Nat → Nat → Prop} {z : Z} {w : World}

/-- A list of cells that holds some elements, one behind the other. -/
def Rows (C : Cx) (N : Nat → Nat → Prop) (z : Z) (es : List AV) (sz : Nat) (L : List Value) : Prop :=
  L.length = es.length * sz ∧ (∀ u ∈ L, u.oneCell' = true) ∧ ∀ (i : Nat) e, es[i]? = some e → e.cells.length = sz ∧ ∀ (j : Nat) a, e.cells[j]? = some a → ∃ u, L[i * sz + j]? = some u ∧ u.oneCell' = true ∧ R C.P N z a u

theorem Rows.nil (sz : Nat) : Rows C N z [] sz [] := ⟨by simp, (fun u h => by cases h), fun i e h => by simp at h⟩
theorem Rows.app {es ys : List AV} {sz : Nat} {L L' : List Value} (h : Rows C N z es sz L) (k : Rows C N z ys sz L') : Rows C N z (es ++ ys) sz (L ++ L') := by
  refine ⟨by simp [h.1, k.1, Nat.add_mul], fun u hu => ?_, fun i e he => ?_⟩
  · rcases List.mem_append.1 hu with hu | hu
    · exact h.2.1 u hu
    · exact k.2.1 u hu
  · by_cases hi : i < es.length
    · rw [List.getElem?_append_left hi] at he
      refine ⟨(h.2.2 i e he).1, fun j a ha => ?_⟩
      obtain ⟨u, h1, h2⟩ := (h.2.2 i e he).2 j a ha
      exact ⟨u, by rw [List.getElem?_append_left (List.getElem?_eq_some_iff.1 h1).1]; exact h1, h2⟩
    · rw [List.getElem?_append_right (by omega)] at he
      refine ⟨(k.2.2 _ e he).1, fun j a ha => ?_⟩
      obtain ⟨u, h1, h2⟩ := (k.2.2 _ e he).2 j a ha
      refine ⟨u, ?_, h2⟩
      have hm : es.length * sz ≤ i * sz := Nat.mul_le_mul_right _ (by omega)
      rw [List.getElem?_append_right (by rw [h.1]; omega), h.1, ← h1, Nat.sub_mul]
      congr 1; omega
theorem Rows.step {z' : Z} (hT : Tr C.P N z z') {es : List AV} {sz : Nat} {L : List Value} (h : Rows C N z es sz L) : Rows C N z' es sz L :=
  ⟨h.1, h.2.1, fun i e he => ⟨(h.2.2 i e he).1, fun j a ha => let ⟨u, h1, h2, h3⟩ := (h.2.2 i e he).2 j a ha; ⟨u, h1, h2, R_step hT h3⟩⟩⟩

theorem rows_at {b o sz : Nat} (es : List AV) (h : ∀ (i : Nat) e, es[i]? = some e → e.cells.length = sz ∧ ∀ (j : Nat) a, e.cells[j]? = some a → ∃ u, cellAt z.h b (o + (i * sz + j)) = some u ∧ u.oneCell' = true ∧ R C.P N z a u) :
    Rows C N z es sz (rowAt z.h b o (es.length * sz)) ∧ ∀ (j : Nat) u, (rowAt z.h b o (es.length * sz))[j]? = some u → cellAt z.h b (o + j) = some u := by
  have cell : ∀ k, k < es.length * sz → ∃ u, cellAt z.h b (o + k) = some u ∧ u.oneCell' = true := fun k hk => by
    have hsz : 0 < sz := by
      rcases Nat.eq_zero_or_pos sz with h0 | h0
      · subst h0; simp at hk
      · exact h0
    have hi : k / sz < es.length := Nat.div_lt_of_lt_mul (by rwa [Nat.mul_comm] at hk)
    obtain ⟨h1, h2⟩ := h (k / sz) _ (List.getElem?_eq_getElem hi)
    have hj : k % sz < (es[k / sz]).cells.length := by rw [h1]; exact Nat.mod_lt _ hsz
    obtain ⟨u, h3, h4, _⟩ := h2 (k % sz) _ (List.getElem?_eq_getElem hj)
    have hk2 : k / sz * sz + k % sz = k := by rw [Nat.mul_comm]; exact Nat.div_add_mod k sz
    rw [hk2] at h3
    exact ⟨u, h3, h4⟩
  refine ⟨⟨by simp [rowAt_length], fun u hu => ?_, fun i e he => ⟨(h i e he).1, fun j a ha => ?_⟩⟩, fun j u hu => ?_⟩
  · obtain ⟨k, hk⟩ := List.mem_iff_getElem?.1 hu
    obtain ⟨h1, rfl⟩ := rowAt_get hk
    obtain ⟨u, h2, h3⟩ := cell k h1
    rw [h2]; exact h3
  · obtain ⟨u, h1, h2, h3⟩ := (h i e he).2 j a ha
    refine ⟨u, rowAt_some ?_ h1, h2, h3⟩
    have hj : j < sz := by have := (List.getElem?_eq_some_iff.1 ha).1; have := (h i e he).1; omega
    exact mul_slot (List.getElem?_eq_some_iff.1 he).1 hj
  · obtain ⟨h1, rfl⟩ := rowAt_get hu
    obtain ⟨u, h2, _⟩ := cell j h1
    rw [h2]; rfl

theorem hd_size {es : List AV} {sz st : Nat} (h : hdSz es sz = true) (hst : ∀ e ∈ es, e.cells.length = st) (hne : es ≠ []) : st = sz := by
  cases es with
  | nil => exact absurd rfl hne
  | cons e r =>
    simp [hdSz] at h
    exact (hst e (by simp)).symm.trans h

/-- A slice's elements: where they lie. -/
theorem elems_sound (hG : Good C N z) {x : AV} {v : Value} {ys : List AV} {sz : Nat} (hx : R C.P N z x v) (he : z.m.elems x = some ys) (hd : hdSz ys sz = true) :
    ∃ a cap L, v = .slice a ys.length cap ∧ ys.length ≤ cap ∧ cap ≤ maxLen ∧ Rows C N z ys sz L ∧ (ys ≠ [] → ∃ b o, a = some ⟨b, o, none⟩ ∧ ∀ (j : Nat) u, L[j]? = some u → cellAt z.h b (o + j) = some u) := by
  cases x with
  | sl es tk =>
    simp only [Mem.elems, Option.some.injEq] at he
    subst he
    obtain ⟨a, cap, st, rfl, h1, h1', _, h3, h4, _⟩ := R_sl.1 hx
    by_cases hne : es = []
    · subst hne
      exact ⟨a, cap, [], rfl, h1, h1', Rows.nil sz, fun h => absurd rfl h⟩
    · obtain rfl := hd_size hd h3 hne
      obtain ⟨e0, he0⟩ : ∃ e0, es[0]? = some e0 := by cases es with | nil => exact absurd rfl hne | cons e r => exact ⟨e, rfl⟩
      obtain ⟨b, o, rfl, _⟩ := h4 0 e0 he0
      have hb : ∀ (i : Nat) e, es[i]? = some e → AtI C.P N z (R C.P N z) e b (o + i * st) := fun i e he => by
        obtain ⟨b', o', h5, h6⟩ := h4 i e he
        cases h5; exact h6
      obtain ⟨h5, h6⟩ := rows_at (C := C) (N := N) (z := z) (b := b) (o := o) (sz := st) es fun i e he => ⟨h3 e (List.mem_of_getElem? he), fun j a ha => by
        obtain ⟨u, h7, _, h8, h9⟩ := hb i e he j a ha
        exact ⟨u, by rw [← Nat.add_assoc]; exact h7, h8, h9⟩⟩
      exact ⟨_, cap, _, rfl, h1, h1', h5, fun _ => ⟨b, o, rfl, h6⟩⟩
  | ref id off len =>
    simp only [Mem.elems] at he
    split at he
    · rename_i es n hb
      split at he
      · rename_i hle
        cases he
        obtain ⟨hid, _, hx⟩ := R_ref.1 hx
        obtain ⟨cap, rfl, h1, h2, h3⟩ := hx es n hb
        obtain ⟨cs, T, g1, g2, g3⟩ := hG.live id es n hb
        have hlen : ((es.drop off).take len).length = len := by simp; omega
        by_cases hne : (es.drop off).take len = []
        · have hl0 : len = 0 := by rw [hne] at hlen; simpa using hlen.symm
          subst hl0
          exact ⟨some ⟨z.ρ id, off * n, none⟩, cap, [], by simp, by simp, by omega, by simpa using Rows.nil sz, fun h => absurd (by simp) h⟩
        · have hsz : n = sz := hd_size hd (fun e he => by
            obtain ⟨i, hi⟩ := List.mem_iff_getElem?.1 (List.mem_of_mem_drop (List.mem_of_mem_take he))
            exact (g3 i e hi).1) hne
          subst hsz
          obtain ⟨h5, h6⟩ := rows_at (C := C) (N := N) (z := z) (b := z.ρ id) (o := off * n) (sz := n) ((es.drop off).take len) fun i e he => by
            rw [List.getElem?_take] at he
            split at he
            · rw [List.getElem?_drop] at he
              refine ⟨(g3 _ e he).1, fun j a ha => ?_⟩
              obtain ⟨u, h7, h8, h9⟩ := (g3 _ e he).2 j a ha
              refine ⟨u, ?_, h8, h9⟩
              unfold cellAt; rw [g1]; simp only
              rw [show off * n + (i * n + j) = (off + i) * n + j by rw [Nat.add_mul]; omega]; exact h7
            · cases he
          refine ⟨_, cap, _, by rw [hlen], by rw [hlen]; exact h1, by omega, h5, fun _ => ⟨_, _, rfl, h6⟩⟩
      · cases he
    · cases he
  | _ => simp [Mem.elems] at he

/-- Nothing is appended. -/
theorem run_append_zero (t ty e : TypeId) (ht : C.P.underlying t = some (.slice e)) {i : TypeInfo} (hi : C.P.info? e = some i) (b : Option Addr) (n cap : Nat) (hn : n ≤ cap) (a : Option Addr) (c : Nat) :
    (Builtin.append_ #[t, t] ty #[.slice b n cap, .slice a 0 c]).run C.P w = .ok (.slice b n cap) w := by
  cases a <;> cases b <;> simp [Builtin.append_, run_underlying ht, sizeOf, typeInfo, hi, Builtin.lenOf, Builtin.firstCells, loadCells, loadCellsFrom, hn, storeCells]

/-- A slice over a row of which it has the first elements. -/
theorem sl_of_row {es : List AV} {sz : Nat} {b : Nat} {cs : Array Value} {T : TypeId} {cap : Nat} {tk : Tk} (hb : z.h[b]? = some (.cells cs T (0, 0))) (hcap : es.length ≤ cap) (hm : cap ≤ maxLen)
    {L : List Value} (hr : Rows C N z es sz L) (hL : ∀ (k : Nat) u, L[k]? = some u → cs[k]? = some u) (hx : ∀ o, o < es.length * sz → ¬X C.P N z b o) (htk : TkRep z es.length sz (some ⟨b, 0, none⟩) cap tk) :
    R C.P N z (.sl es tk) (.slice (some ⟨b, 0, none⟩) es.length cap) := by
  refine R_sl.2 ⟨_, cap, sz, rfl, hcap, hm, (fun h => by cases h), fun e he => ?_, fun i e he => ⟨b, 0, rfl, fun j a ha => ?_⟩, htk⟩
  · obtain ⟨i, hi⟩ := List.mem_iff_getElem?.1 he
    exact (hr.2.2 i e hi).1
  · obtain ⟨u, h1, h2, h3⟩ := (hr.2.2 i e he).2 j a ha
    refine ⟨u, ?_, ?_, h2, h3⟩
    · unfold cellAt; rw [hb, Nat.zero_add]; exact hL _ _ h1
    · rw [Nat.zero_add]
      refine hx _ ?_
      have := (List.getElem?_eq_some_iff.1 h1).1
      rw [hr.1] at this; exact this
end
end Go.Ab
end

section
/-
  Appends.
-/
namespace Go.Ab
section
variable {C : Cx} {N : Nat → Nat → Prop} {z : Z} {w : World}

theorem limit_lt {n m b : Nat} (h : (n + m) * (b + 1) ≤ limit) : n + m ≤ maxLen ∧ (n + m) * b ≤ 1099511627776 ∧ n + m ≤ 1099511627776 := by
  have h1 : (n + m) * b ≤ (n + m) * (b + 1) := Nat.mul_le_mul_left _ (by omega)
  have h2 : (n + m) * 1 ≤ (n + m) * (b + 1) := Nat.mul_le_mul_left _ (by omega)
  simp only [limit] at h
  simp only [maxLen]
  omega

theorem cell_of_rows {a : Option Addr} {L : List Value} {b o : Nat} (ha : a = some ⟨b, o, none⟩) (hh : z.h = w.heap) (h : ∀ (j : Nat) u, L[j]? = some u → cellAt z.h b (o + j) = some u) :
    ∀ (j : Nat) u, L[j]? = some u → w.cell? ((⟨b, o, none⟩ : Addr).add j) = some u := fun j u hu => by
  rw [add_none, cell_eq, ← hh]; exact h j u hu

/-- A row that grows into new memory: what an append then gives. -/
theorem grow_run (hh : z.h = w.heap) {t e : TypeId} (ht : C.P.underlying t = some (.slice e)) {i : TypeInfo} (hi : C.P.info? e = some i) {x0 : Value} (hz : i.zero = some x0) (ty : TypeId)
    {es ys : List AV} {a a' : Option Addr} {cap c : Nat} {L L' : List Value} (hr : Rows C N z es i.size L) (hr' : Rows C N z ys i.size L') (hne : ys ≠ []) (hcap : cap < es.length + ys.length) (hn : a = none → cap = 0 ∧ es = [])
    (hL : es ≠ [] → ∃ b o, a = some ⟨b, o, none⟩ ∧ ∀ (j : Nat) u, L[j]? = some u → cellAt z.h b (o + j) = some u)
    (hL' : ys ≠ [] → ∃ b o, a' = some ⟨b, o, none⟩ ∧ ∀ (j : Nat) u, L'[j]? = some u → cellAt z.h b (o + j) = some u)
    (hb : (es.length + ys.length) * (i.bytes + 1) ≤ limit) :
    ∃ (cap' : Nat) (cs : Array Value), (Builtin.append_ #[t, t] ty #[.slice a es.length cap, .slice a' ys.length c]).run C.P w = .ok (.slice (some ⟨w.heap.size, 0, none⟩) (es.length + ys.length) cap') (w.drew.alloc (.cells cs e)) ∧
      es.length + ys.length ≤ cap' ∧ cap' ≤ maxLen ∧ cs.size = (es.length + ys.length) * i.size + (cap' - (es.length + ys.length)) * x0.cells.size ∧ (∀ (k : Nat) u, (L ++ L')[k]? = some u → cs[k]? = some u) := by
  obtain ⟨b1, b2, b3⟩ := limit_lt hb
  obtain ⟨b', o', rfl, h'⟩ := hL' hne
  have hy0 : 0 < ys.length := List.length_pos_iff.2 hne
  have hge := grownCap_ge w (es.length + ys.length) cap e
  have hle := grownCap_le_maxLen w (es.length + ys.length) cap e b1
  have hget : ∀ (D : Array Value) (k : Nat) u, (L ++ L')[k]? = some u → (((L ++ L').toArray ++ D)[k]?) = some u := fun D k u hu => by
    rw [Array.getElem?_append_left (by have := (List.getElem?_eq_some_iff.1 hu).1; simpa using this)]; simpa using hu
  have hlen : (L ++ L').length = (es.length + ys.length) * i.size := by rw [List.length_append, hr.1, hr'.1, Nat.add_mul]
  by_cases ha : a = none
  · obtain ⟨hc0, he0⟩ := hn ha
    subst ha; subst hc0; subst he0
    have hL0 : L = [] := List.eq_nil_of_length_eq_zero (by rw [hr.1]; simp)
    subst hL0
    have hrun := run_append_nil (P := C.P) w t ty e i x0 ht hi hz ⟨b', o', none⟩ ys.length c L' hr'.1 (cell_of_rows rfl hh h') hy0 (by simp at b3; omega) (by simp at b2; omega)
    simp only [List.length_nil, Nat.zero_add] at *
    refine ⟨grownCap w ys.length 0 e, _, hrun, hge, hle, ?_, fun k u hu => ?_⟩
    · simp [size_zeroCells, hr'.1]
    · simpa using hget _ k u (by simpa using hu)
  · obtain ⟨ad, rfl⟩ : ∃ ad, a = some ad := by cases a with | none => exact absurd rfl ha | some ad => exact ⟨ad, rfl⟩
    have holds : ∀ (j : Nat) u, L[j]? = some u → w.cell? (ad.add j) = some u := by
      by_cases hes : es = []
      · have hL0 : L = [] := List.eq_nil_of_length_eq_zero (by rw [hr.1, hes]; simp)
        rw [hL0]; intro j u hu; simp at hu
      · obtain ⟨b, o, he, h1⟩ := hL hes
        cases he
        exact cell_of_rows rfl hh h1
    have hrun := run_append_grow (P := C.P) w t ty e i x0 ht hi hz ad es.length cap L hr.1 holds ⟨b', o', none⟩ ys.length c L' hr'.1 (cell_of_rows rfl hh h') hcap (by omega) (growslice_fits hcap (by omega))
    refine ⟨grownCap w (es.length + ys.length) cap e, _, hrun, hge, hle, ?_, fun k u hu => ?_⟩
    · simp [size_zeroCells, hr.1, hr'.1, Nat.add_mul]
    · have := hget (Builtin.zeroCells x0.cells (grownCap w (es.length + ys.length) cap e - (es.length + ys.length))) k u hu
      simpa using this

theorem sl_free {es : List AV} {tk : Tk} {b o cap n : Nat} (h : R C.P N z (.sl es tk) (.slice (some ⟨b, o, none⟩) n cap)) {sz : Nat} (hsz : ∀ e ∈ es, e.cells.length = sz) : ∀ k, k < es.length * sz → ¬X C.P N z b (o + k) := by
  intro k hk
  obtain ⟨a, cap', st, he, _, _, _, h3, h4, _⟩ := R_sl.1 h
  cases he
  have h0 : 0 < sz := by
    rcases Nat.eq_zero_or_pos sz with h0 | h0
    · subst h0; simp at hk
    · exact h0
  have hi : k / sz < es.length := Nat.div_lt_of_lt_mul (by rwa [Nat.mul_comm] at hk)
  have hm := List.getElem_mem hi
  have hst : st = sz := (h3 _ hm).symm.trans (hsz _ hm)
  subst hst
  obtain ⟨b', o', he, h5⟩ := h4 (k / st) _ (List.getElem?_eq_getElem hi)
  cases he
  have hj : k % st < (es[k / st]).cells.length := by rw [hsz _ hm]; exact Nat.mod_lt _ h0
  obtain ⟨_, _, h6, _⟩ := h5 (k % st) _ (List.getElem?_eq_getElem hj)
  have hk2 : k / st * st + k % st = k := by rw [Nat.mul_comm]; exact Nat.div_add_mod k st
  rwa [Nat.add_assoc, hk2] at h6

theorem append_val_sound (hG : Good C N z) (hh : z.h = w.heap) {t e : TypeId} (ht : C.P.underlying t = some (.slice e)) {i : TypeInfo} (hi : C.P.info? e = some i) {z0 : AV} (hz0 : zeroT C.P e = some z0) (hzl : z0.cells.length = i.size)
    (hzs : z0.solids = true) (ty : TypeId) {s x v : AV} {sv xv : Value} (hs : R C.P N z s sv) (hx : R C.P N z x xv) {m' : Mem} {es : List AV} {tk : Tk} (hse : s = .sl es tk) (h : appendAt z.m false s x e i.size i.bytes = some (v, m')) :
    OpRes C N z m' v w ((do pure (.value (← Builtin.append_ #[t, t] ty #[sv, xv])) : Sem Next).run C.P w) := by
  subst hse
  unfold appendAt at h
  split at h
  · cases h
  · rename_i ys hys
    split at h
    · cases h
    · rename_i hd
      have hd : hdSz ys i.size = true := by cases hq : hdSz ys i.size <;> simp_all
      simp only at h
      split at h
      · rename_i hc
        obtain ⟨hlim, hde⟩ := hc
        simp only [Bool.false_eq_true, if_false, Option.map_eq_some_iff] at h
        obtain ⟨⟨tk', toks'⟩, happ, he⟩ := h
        cases he
        obtain ⟨a', c, L', rfl, hc1, hc2, hr', hL'⟩ := elems_sound hG hx hys hd
        obtain ⟨a, cap, L, hsv, hcap, hcm, hr, hL⟩ := elems_sound hG hs (ys := es) rfl hde
        subst hsv
        obtain ⟨x0, hx0, hrx0⟩ : ∃ x0, i.zero = some x0 ∧ R C.P N z z0 x0 := by
          simp only [zeroT, Option.bind_eq_some_iff] at hz0
          obtain ⟨i2, hi2, x0, h1, h2⟩ := hz0
          rw [hi] at hi2; cases hi2
          exact ⟨x0, h1, trVal_sound h2⟩
        have hxs : x0.cells.size = i.size := by have := (cells_sound hrx0 hzs).1; simp at this; omega
        have htsz : tsz C.P e = i.size := by simp [tsz, Program.cellsOf, hi]
        obtain ⟨b1, b2, b3⟩ := limit_lt hlim
        obtain ⟨a2, cap2, st, he2, _, _, hnone, hst, _, htk⟩ := R_sl.1 hs
        cases he2
        unfold appTk at happ
        split at happ
        · -- nothing is appended
          rename_i hn0
          cases happ
          have hy : ys = [] := List.eq_nil_of_length_eq_zero hn0
          subst hy
          refine ⟨_, w, z, .inl (by simp [run_append_zero (C := C) (w := w) t ty e ht hi a es.length cap hcap a' c]; rfl), by simpa using hs, hG, Tr.refl z, hh, rfl, WS.refl w⟩
        · rename_i hn0
          have hne : ys ≠ [] := fun h => hn0 (by rw [h]; rfl)
          have hy0 : 0 < ys.length := List.length_pos_iff.2 hne
          have hnn : a = none → cap = 0 ∧ es = [] := fun h => ⟨hnone h, List.eq_nil_of_length_eq_zero (by have := hnone h; omega)⟩
          -- when the row moves
          have moved : cap < es.length + ys.length → ∃ (cap' : Nat) (cs : Array Value), (Builtin.append_ #[t, t] ty #[.slice a es.length cap, .slice a' ys.length c]).run C.P w = .ok (.slice (some ⟨w.heap.size, 0, none⟩) (es.length + ys.length) cap') (w.drew.alloc (.cells cs e)) ∧
              es.length + ys.length ≤ cap' ∧ cap' ≤ maxLen ∧ cs.size = cap' * i.size ∧ (∀ (k : Nat) u, (L ++ L')[k]? = some u → cs[k]? = some u) := fun hlt => by
            obtain ⟨cap', cs, h1, h2, h3, h4, h5⟩ := grow_run (z := z) (N := N) hh ht hi hx0 ty hr hr' hne hlt hnn hL hL' hlim (c := c)
            refine ⟨cap', cs, h1, h2, h3, ?_, h5⟩
            rw [h4, hxs, ← Nat.add_mul]; congr 1; omega
          cases tk with
          | unk => simp at happ
          | tight =>
            simp only [Option.some.injEq, Prod.mk.injEq] at happ
            obtain ⟨rfl, rfl⟩ := happ
            have hct : cap = es.length := htk
            obtain ⟨cap', cs, h1, h2, h3, h4, h5⟩ := moved (by omega)
            have hT := newT_tr (N := N) hG (es.length + ys.length) e (.cells cs e (0, 0))
            refine ⟨_, w.drew.alloc (.cells cs e), z.newT (es.length + ys.length) e (.cells cs e (0, 0)), .inl (by simp [h1]; rfl), ?_, newT_good hG ⟨cap', by rw [htsz]; exact h4, h2, h3⟩, hT, ?_, rfl, ⟨rfl, rfl, rfl⟩⟩
            · have hnew : (z.newT (es.length + ys.length) e (.cells cs e (0, 0))).h[z.h.size]? = some (.cells cs e (0, 0)) := by show (z.h.push _)[z.h.size]? = _; simp
              have hnt : (z.newT (es.length + ys.length) e (.cells cs e (0, 0))).τ z.m.toks.length = z.h.size := by simp [Z.newT]
              have := sl_of_row (C := C) (N := N) (z := z.newT (es.length + ys.length) e (.cells cs e (0, 0))) (es := es ++ ys) (sz := i.size) (tk := .at z.m.toks.length) hnew (by simpa using h2) h3 ((hr.app hr').step hT) h5
                (fun o ho => by
                  rintro (hx | ⟨id, es', sz', h6, h7⟩ | ⟨t', n, T', h6, h7, h8⟩)
                  · have := hG.no _ _ hx; omega
                  · have := hG.rho_lt h6 (by simp); simp only [Z.newT] at h7; omega
                  · rcases get_snoc h6 with ⟨h6, hi6⟩ | ⟨rfl, h6e⟩
                    · simp only [Z.newT] at h7; rw [if_neg (by omega)] at h7; have := hG.tau_lt h6; omega
                    · cases h6e; rw [htsz] at h8; simp at ho; omega)
                ⟨by simp [Z.newT], fun k T hk => by
                  rcases get_snoc hk with ⟨_, hi6⟩ | ⟨_, hk⟩
                  · omega
                  · cases hk
                    refine ⟨by simp, fun _ => ⟨by rw [hnt], ?_⟩⟩
                    unfold csize; rw [hnt, hnew]; exact h4.symm⟩
              rw [hh] at this
              simpa using this
            · show z.h.push _ = _; rw [hh]; rfl
          | _ =>
            rename_i q
            simp only at happ
            split at happ
            · rename_i hq
              obtain ⟨hq, hq0⟩ := hq
              simp only [Option.some.injEq, Prod.mk.injEq] at happ
              obtain ⟨rfl, rfl⟩ := happ
              have hes : es ≠ [] := fun h => hq0 (by rw [h]; rfl)
              obtain rfl := hd_size hde hst hes
              obtain ⟨hql, htk⟩ := htk
              obtain ⟨hle, hcur⟩ := htk _ _ hq
              obtain ⟨ha, hcs⟩ := hcur rfl
              obtain ⟨cs0, cap0, g1, g2, g3, g4⟩ := hG.tok q _ _ hq
              have hcsz : csize z.h (z.τ q) = cs0.size := by unfold csize; rw [g1]
              rw [hcsz] at hcs
              subst ha
              by_cases hroom : es.length + ys.length ≤ cap
              · -- there is room
                obtain ⟨b', o', rfl, h'⟩ := hL' hne
                have g1w : w.heap[z.τ q]? = some (.cells cs0 e (0, 0)) := by rw [← hh]; exact g1
                have hfit : es.length * i.size + L'.length ≤ cs0.size := by rw [hr'.1, ← hcs, ← Nat.add_mul]; exact Nat.mul_le_mul_right _ hroom
                have hrun := run_append_room (P := C.P) w t ty e i ht hi (z.τ q) es.length cap cs0 g1w ⟨b', o', none⟩ ys.length c L' hr'.1 (cell_of_rows rfl hh h') hr'.2.1 hroom hfit
                obtain ⟨cs', hcs'⟩ : ∃ cs', cs' = (cs0.toList.take (es.length * i.size) ++ L' ++ cs0.toList.drop (es.length * i.size + L'.length)).toArray := ⟨_, rfl⟩
                rw [← hcs'] at hrun
                have hsz2 : cs'.size = cs0.size := by rw [hcs']; simpa using splice_length cs0.toList L' (es.length * i.size) (by simpa using hfit)
                have hget : ∀ k, cs'[k]? = if k < es.length * i.size then cs0[k]? else if k < es.length * i.size + L'.length then L'[k - es.length * i.size]? else cs0[k]? := fun k => by
                  rw [hcs']
                  have := splice_get cs0.toList L' (es.length * i.size) k (by simpa using hfit)
                  simpa using this
                have hold : ∀ o, o < es.length * tsz C.P e → cs'[o]? = cs0[o]? := fun o ho => by rw [hget, if_pos (by rw [htsz] at ho; exact ho)]
                have hfit' : ∃ cap, cs0.size = cap * tsz C.P e ∧ es.length + ys.length ≤ cap ∧ cap ≤ maxLen := ⟨cap, by rw [htsz]; exact hcs.symm, hroom, hcm⟩
                have hT := putT_tr (N := N) hG hq g1 hsz2 (n' := es.length + ys.length) (by omega) hold
                refine ⟨_, w.setRow (z.τ q) cs', z.putT q (es.length + ys.length) e (.cells cs' e (0, 0)), .inl (by simp [hrun]; rfl), ?_, putT_good hG hq g1 hsz2 (by omega) hold hfit', hT, ?_, rfl, ⟨rfl, rfl, rfl⟩⟩
                · have hnew : (z.putT q (es.length + ys.length) e (.cells cs' e (0, 0))).h[z.τ q]? = some (.cells cs' e (0, 0)) := putT_same (hG.tau_lt hq)
                  obtain ⟨b0, o0, he0, hL0⟩ := hL hes
                  cases he0
                  have := sl_of_row (C := C) (N := N) (z := z.putT q (es.length + ys.length) e (.cells cs' e (0, 0))) (es := es ++ ys) (sz := i.size) (tk := .at q) hnew (by simpa using hroom) hcm ((hr.app hr').step hT)
                    (fun k u hu => by
                      rw [hget]
                      by_cases hk : k < es.length * i.size
                      · rw [if_pos hk]
                        rw [List.getElem?_append_left (by rw [hr.1]; exact hk)] at hu
                        have := hL0 k u hu
                        unfold cellAt at this; rw [g1, Nat.zero_add] at this; exact this
                      · rw [if_neg hk]
                        rw [List.getElem?_append_right (by rw [hr.1]; omega), hr.1] at hu
                        rw [if_pos (by have := (List.getElem?_eq_some_iff.1 hu).1; omega)]
                        exact hu)
                    (fun o ho => by
                      rintro (hx | ⟨id, es', sz', h6, h7⟩ | ⟨t', n, T', h6, h7, h8⟩)
                      · rcases Nat.lt_or_ge o (es.length * i.size) with ho | ho
                        · have := sl_free hs hst o ho
                          rw [Nat.zero_add] at this
                          exact this (.inl hx)
                        · exact hG.nt q _ _ hq o (by rw [htsz]; exact ho) hx
                      · exact hG.rt id _ q _ h6 (by simp) hq h7
                      · rcases get_set h6 with ⟨rfl, h6e, _⟩ | ⟨hne6, h6⟩
                        · cases h6e; rw [htsz] at h8; simp at ho; omega
                        · exact hne6 (hG.tt t' q _ _ h6 hq h7))
                    ⟨by simpa [Z.putT] using hql, fun k T hk => by
                      rcases get_set hk with ⟨_, hk, _⟩ | ⟨hne6, _⟩
                      · cases hk
                        refine ⟨by simp, fun _ => ⟨rfl, ?_⟩⟩
                        have : csize (z.putT q (es.length + ys.length) e (.cells cs' e (0, 0))).h (z.τ q) = cs'.size := by unfold csize; rw [hnew]
                        exact hcs.trans (hsz2.symm.trans this.symm)
                      · exact absurd rfl hne6⟩
                  simpa using this
                · rw [setRow_heap_eq g1w, ← hh]; rfl
              · obtain ⟨cap', cs, h1, h2, h3, h4, h5⟩ := moved (by omega)
                have hT := moveT_tr (N := N) hG hq (n' := es.length + ys.length) (by omega) (.cells cs e (0, 0))
                refine ⟨_, w.drew.alloc (.cells cs e), z.moveT q (es.length + ys.length) e (.cells cs e (0, 0)), .inl (by simp [h1]; rfl), ?_, moveT_good hG hq (by omega) ⟨cap', by rw [htsz]; exact h4, h2, h3⟩, hT, ?_, rfl, ⟨rfl, rfl, rfl⟩⟩
                · have hnew : (z.moveT q (es.length + ys.length) e (.cells cs e (0, 0))).h[z.h.size]? = some (.cells cs e (0, 0)) := by show (z.h.push _)[z.h.size]? = _; simp
                  have hnt : (z.moveT q (es.length + ys.length) e (.cells cs e (0, 0))).τ q = z.h.size := by simp [Z.moveT]
                  have := sl_of_row (C := C) (N := N) (z := z.moveT q (es.length + ys.length) e (.cells cs e (0, 0))) (es := es ++ ys) (sz := i.size) (tk := .at q) hnew (by simpa using h2) h3 ((hr.app hr').step hT) h5
                    (fun o ho => by
                      rintro (hx | ⟨id, es', sz', h6, h7⟩ | ⟨t', n, T', h6, h7, h8⟩)
                      · have := hG.no _ _ hx; omega
                      · have := hG.rho_lt h6 (by simp); simp only [Z.moveT] at h7; omega
                      · rcases get_set h6 with ⟨rfl, h6e, _⟩ | ⟨hne6, h6⟩
                        · cases h6e; rw [htsz] at h8; simp at ho; omega
                        · simp only [Z.moveT] at h7; rw [if_neg hne6] at h7; have := hG.tau_lt h6; omega)
                    ⟨by simpa [Z.moveT] using hql, fun k T hk => by
                      rcases get_set hk with ⟨_, hk, _⟩ | ⟨hne6, _⟩
                      · cases hk
                        refine ⟨by simp, fun _ => ⟨by rw [hnt], ?_⟩⟩
                        unfold csize; rw [hnt, hnew]; exact h4.symm
                      · exact absurd rfl hne6⟩
                  rw [hh] at this
                  simpa using this
                · show z.h.push _ = _; rw [hh]; rfl
            · cases happ
      · cases h
end
end Go.Ab
end
