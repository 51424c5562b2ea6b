/-
  A part of the proofs over this seat.
  (The texts Ab15 Ab16 Ab17 Ab18 AbM Ab19 Ab20 Ab21, one behind the other.)
-/
import Derived.Test.YtnkdfekbifcglaaA1
import Derived.Laws.MakeOwn
import Derived.Laws.StructEq
import Derived.MapKept
set_option linter.unusedSimpArgs false
set_option linter.unusedVariables false
set_option linter.unusedSectionVars false
section
/-
  Parts of structs and arrays put together; slices of slices; made slices; copies; small operations.
-/
namespace Go.Ab

theorem run_listMapM {P : Program} {w : World} {α β : Type} (g : α → Sem β) (f : α → β) : ∀ (as : List α), (∀ a ∈ as, (g a).run P w = .ok (f a) w) → (as.mapM g).run P w = .ok (as.map f) w
  | [], _ => by simp
  | a :: as, h => by
    rw [List.mapM_cons]
    simp only [Sem.run_bind, h a (by simp), Result.andThen_ok, run_listMapM g f as (fun b hb => h b (by simp [hb])), Sem.run_pure, List.map_cons]
theorem run_arrayMapM {P : Program} {w : World} {α β : Type} (g : α → Sem β) (f : α → β) (as : Array α) (h : ∀ a ∈ as, (g a).run P w = .ok (f a) w) : (as.mapM g).run P w = .ok (as.map f) w := by
  rw [Array.mapM_eq_mapM_toList]
  simp only [Sem.run_map, run_listMapM g f as.toList (fun a ha => h a (by simpa using ha)), Result.andThen_ok]
  congr 1
  apply Array.ext'; simp
theorem mapM_RL' {α β : Type} {f : α → Option β} {S : β → α → Prop} (h : ∀ x a, f x = some a → S a x) : ∀ {l : List α} {as : List β}, l.mapM f = some as → as.length = l.length ∧ ∀ (i : Nat) a x, as[i]? = some a → l[i]? = some x → S a x
  | [], as, e => by simp at e; subst e; exact ⟨rfl, fun i a x h => by simp at h⟩
  | y :: l, as, e => by
    simp only [List.mapM_cons, bind, Option.bind_eq_some_iff, pure, Option.some.injEq] at e
    obtain ⟨b, hb, bs, hbs, rfl⟩ := e
    obtain ⟨h1, h2⟩ := mapM_RL' h hbs
    refine ⟨by simp [h1], fun i a x h3 h4 => ?_⟩
    cases i with
    | zero => simp at h3 h4; subst h3; subst h4; exact h _ _ hb
    | succ i => exact h2 i a x (by simpa using h3) (by simpa using h4)

section
variable {C : Cx} {N : Nat → Nat → Prop} {z : Z} {w : World}

theorem fill_sound (place : Nat → Option (Nat × Nat)) : ∀ (ap : List (Nat × Nat × AV)) (cp : List (Nat × Value)) (cs : List AV) (cells : Array Value) (cs' : List AV), ap.length = cp.length →
    (∀ (k : Nat) o s v i x, ap[k]? = some (o, s, v) → cp[k]? = some (i, x) → place i = some (o, s) ∧ R C.P N z v x) → RL (R C.P N z) cs cells.toList → fillParts cs ap = some cs' →
    ∃ cells', Instr.fill place cells cp = some cells' ∧ RL (R C.P N z) cs' cells'.toList
  | [], [], cs, cells, cs', _, _, hr, h => by simp only [fillParts, Option.some.injEq] at h; subst h; exact ⟨cells, rfl, hr⟩
  | [], _ :: _, _, _, _, hl, _, _, _ => by simp at hl
  | _ :: _, [], _, _, _, hl, _, _, _ => by simp at hl
  | (o, s, v) :: ap, (i, x) :: cp, cs, cells, cs', hl, hp, hr, h => by
    obtain ⟨hpl, hv⟩ := hp 0 o s v i x rfl rfl
    simp only [fillParts] at h
    split at h
    · rename_i hc
      obtain ⟨⟨hc1, hc2⟩, hc3⟩ := hc
      have hx := cells_sound hv hc2
      have hxs : x.cells.size = s := by have := hx.1; simp at this; omega
      have hcl : cells.size = cs.length := by have := hr.1; simp at this; omega
      obtain ⟨g1, g2⟩ := setAll_array o x.cells cells (by omega)
      have hnew : RL (R C.P N z) (cs.take o ++ v.cells ++ cs.drop (o + s)) (x.cells.zipIdx.foldl (fun cs (c, j) => cs.setIfInBounds (o + j) c) cells).toList := by
        refine ⟨?_, fun k a u h1 h2 => ?_⟩
        · have e1 := splice_length cs v.cells o (by omega)
          rw [hc1] at e1
          rw [e1]
          exact hcl.symm.trans g1.symm
        · rw [Array.getElem?_toList, g2] at h2
          rw [← hc1, splice_get cs v.cells o k (by omega)] at h1
          by_cases k1 : k < o
          · rw [if_pos k1] at h1 h2; exact hr.2 k a u h1 (by rw [Array.getElem?_toList]; exact h2)
          · rw [if_neg k1] at h1 h2
            by_cases k2 : k < o + v.cells.length
            · rw [if_pos k2] at h1; rw [if_pos (by omega)] at h2; exact (hx.2 _ a u h1 (by rw [Array.getElem?_toList]; exact h2)).1
            · rw [if_neg k2] at h1; rw [if_neg (by omega)] at h2; exact hr.2 k a u h1 (by rw [Array.getElem?_toList]; exact h2)
      obtain ⟨cells', e1, e2⟩ := fill_sound place ap cp _ _ cs' (by simpa using hl) (fun k => hp (k + 1)) hnew h
      refine ⟨cells', ?_, e2⟩
      simp only [Instr.fill, hpl]
      rw [if_neg (by simp [hxs]; omega)]
      exact e1
    · cases h

theorem build_sound {t : TypeId} {z0 : AV} (hz : zeroT C.P t = some z0) {parts : Array (Nat × Operand)} {ap : List (Nat × Nat × Src)} (hp : trParts C.P C.G t parts.toList = some ap) {s : St} {a : Act} (hG : Good C N z) (he : EnvOK C N z s.env a)
    {cs : List AV} (h : fillParts z0.cells (ap.map fun p => (p.1, p.2.1, s.ev p.2.2)) = some cs) (hs : z0.solids = true) :
    ∃ v', (Instr.build t (parts.map fun (i, x) => (i, a.eval x))).run C.P w = .ok v' w ∧ R C.P N z (.agg cs) v' := by
  obtain ⟨x0, hx0, hr0⟩ := zeroT_sound (w := w) (N := N) (z := z) hz
  have hzc : RL (R C.P N z) z0.cells x0.cells.toList := (cells_sound hr0 hs).mono fun _ _ h => h.1
  unfold trParts at hp
  split at hp
  · rename_i fs hu
    split at hp
    · rename_i hall
      obtain ⟨hl, hq⟩ := mapM_RL' (S := fun b p => ∃ f : Field, fs[p.1]? = some f ∧ b.1 = f.offset ∧ sizeT C.P f.type = some b.2.1 ∧ trX C.G p.2 = some b.2.2) (fun p b hb => by
        simp only [bind, Option.bind_eq_some_iff, pure, Option.some.injEq] at hb
        obtain ⟨f, h1, n, h2, x, h3, rfl⟩ := hb
        exact ⟨f, h1, rfl, h2, h3⟩) hp
      obtain ⟨cells', h1, h2⟩ := fill_sound (C := C) (N := N) (z := z) ((fs.map fun f => (f.offset, (sizeT C.P f.type).getD 0))[·]?) (ap.map fun p => (p.1, p.2.1, s.ev p.2.2)) (parts.toList.map fun x => (x.1, a.eval x.2)) z0.cells x0.cells cs
        (by simp [hl]) (fun k o n v i x hk1 hk2 => by
          simp only [List.getElem?_map, Option.map_eq_some_iff] at hk1 hk2
          obtain ⟨b, hb, hb'⟩ := hk1
          obtain ⟨p, hp', hp''⟩ := hk2
          cases hb'; cases hp''
          obtain ⟨f, h3, h4, h5, h6⟩ := hq k b p hb hp'
          refine ⟨?_, trX_sound hG he h6⟩
          rw [Array.getElem?_map, h3]
          simp [h4, h5]) hzc h
      refine ⟨.agg cells', ?_, R_agg.2 ⟨cells', rfl, h2⟩⟩
      have hm := run_arrayMapM (P := C.P) (w := w) (fun f : Field => Functor.map (Prod.mk f.offset) (sizeOf f.type)) (fun f => (f.offset, (sizeT C.P f.type).getD 0)) fs (fun f hf => by
        have hs1 : (sizeT C.P f.type).isSome = true := by
          obtain ⟨k, hk, rfl⟩ := Array.mem_iff_getElem.1 hf
          exact (Array.all_eq_true.1 hall) k hk
        obtain ⟨i, hi⟩ : ∃ i, C.P.info? f.type = some i := by
          unfold sizeT at hs1
          cases hq2 : C.P.info? f.type with
          | none => rw [hq2] at hs1; cases hs1
          | some i => exact ⟨i, rfl⟩
        simp [sizeOf, typeInfo, hi, sizeT])
      simp only [Array.getElem?_map] at h1
      simp [Instr.build, hx0, run_underlying hu, hm, h1]
    · cases hp
  · rename_i q e hu
    simp only [bind, Option.bind_eq_some_iff] at hp
    obtain ⟨sz, hsz, hp⟩ := hp
    obtain ⟨hl, hq⟩ := mapM_RL' (S := fun b p => b.1 = p.1 * sz ∧ b.2.1 = sz ∧ trX C.G p.2 = some b.2.2) (fun p b hb => by
      simp only [pure, Option.bind_eq_some_iff, Option.some.injEq] at hb
      obtain ⟨x, h3, rfl⟩ := hb
      exact ⟨rfl, rfl, h3⟩) hp
    obtain ⟨cells', h1, h2⟩ := fill_sound (C := C) (N := N) (z := z) (fun i => some (i * sz, sz)) (ap.map fun p => (p.1, p.2.1, s.ev p.2.2)) (parts.toList.map fun x => (x.1, a.eval x.2)) z0.cells x0.cells cs
      (by simp [hl]) (fun k o n v i x hk1 hk2 => by
        simp only [List.getElem?_map, Option.map_eq_some_iff] at hk1 hk2
        obtain ⟨b, hb, hb'⟩ := hk1
        obtain ⟨p, hp', hp''⟩ := hk2
        cases hb'; cases hp''
        obtain ⟨h4, h5, h6⟩ := hq k b p hb hp'
        exact ⟨by rw [h4, h5], trX_sound hG he h6⟩) hzc h
    refine ⟨.agg cells', ?_, R_agg.2 ⟨cells', rfl, h2⟩⟩
    simp only [sizeT, Option.map_eq_some_iff] at hsz
    obtain ⟨i', hi', rfl⟩ := hsz
    simp [Instr.build, hx0, run_underlying hu, sizeOf, typeInfo, hi', h1]
  · cases hp
end
end Go.Ab
end

section
/-
  Slices of slices, lengths, made memory, appends into memory of one's own, copies, and what is left.
-/
namespace Go.Ab
section
variable {C : Cx} {N : Nat → Nat → Prop} {z : Z} {w : World}

/-- A bound that may be missing. -/
def OB (C : Cx) (N : Nat → Nat → Prop) (z : Z) (a : Option AV) (v : Option Value) : Prop := (a = none ∧ v = none) ∨ ∃ a' v', a = some a' ∧ v = some v' ∧ R C.P N z a' v'
theorem bounds_sound {len cap : Nat} (hlc : len ≤ cap) (b : Bool) {lo hi : Option AV} {lv hv : Option Value} (hl : OB C N z lo lv) (hh : OB C N z hi hv) {l h : Nat} (e : bounds len lo hi = some (l, h)) :
    l ≤ h ∧ h ≤ len ∧ (Instr.sliceBounds b len cap lv hv none).run C.P w = .ok (l, h, cap) w := by
  unfold bounds at e
  rcases hl with ⟨rfl, rfl⟩ | ⟨la, lv, rfl, rfl, hl⟩ <;> rcases hh with ⟨rfl, rfl⟩ | ⟨ha, hv, rfl, rfl, hh⟩
  · simp only at e
    split at e
    · simp only [Option.some.injEq, Prod.mk.injEq] at e
      obtain ⟨rfl, rfl⟩ := e
      refine ⟨by omega, by omega, by simp [Instr.sliceBounds]⟩
    · cases e
  · simp only at e
    cases hq : asInt ha with
    | none => rw [hq] at e; cases e
    | some q =>
      rw [hq] at e
      simp only at e
      split at e
      · rename_i hc
        simp only [Option.some.injEq, Prod.mk.injEq] at e
        obtain ⟨rfl, rfl⟩ := e
        obtain ⟨k, rfl⟩ := asIntOf_sound hq hh
        have h0 : 0 ≤ q := by omega
        have h1 : q ≤ (cap : Int) := by omega
        refine ⟨by omega, by omega, by simp [Instr.sliceBounds, Instr.sliceBound, asIntOf, h0, h1]⟩
      · cases e
  · simp only at e
    cases hq : asInt la with
    | none => rw [hq] at e; cases e
    | some q =>
      rw [hq] at e
      simp only at e
      split at e
      · rename_i hc
        simp only [Option.some.injEq, Prod.mk.injEq] at e
        obtain ⟨rfl, rfl⟩ := e
        obtain ⟨k, rfl⟩ := asIntOf_sound hq hl
        have h0 : 0 ≤ q := by omega
        have h1 : q ≤ (len : Int) := by omega
        refine ⟨by omega, by omega, by simp [Instr.sliceBounds, Instr.sliceBound, asIntOf, h0, h1]⟩
      · cases e
  · simp only at e
    cases hq : asInt ha with
    | none => rw [hq] at e; cases e
    | some q =>
      cases hp : asInt la with
      | none => rw [hq, hp] at e; cases e
      | some p =>
        rw [hq, hp] at e
        simp only at e
        split at e
        · rename_i hc
          simp only [Option.some.injEq, Prod.mk.injEq] at e
          obtain ⟨rfl, rfl⟩ := e
          obtain ⟨k, rfl⟩ := asIntOf_sound hq hh
          obtain ⟨k', rfl⟩ := asIntOf_sound hp hl
          have h0 : 0 ≤ q := by omega
          have h1 : q ≤ (cap : Int) := by omega
          have h2 : 0 ≤ p := by omega
          have h3 : p ≤ (q.toNat : Int) := by omega
          have h4 : p ≤ max q 0 := by omega
          refine ⟨by omega, by omega, by simp [Instr.sliceBounds, Instr.sliceBound, asIntOf, h0, h1, h2, h4]⟩
        · cases e

theorem slice_sound {t e : TypeId} (ht : C.P.underlying t = some (.slice e)) {sz : Nat} (hs : sizeT C.P e = some sz) {x v : AV} {xv : Value} (hx : R C.P N z x xv) {lo hi : Option AV} {lv hv : Option Value}
    (hl : OB C N z lo lv) (hh : OB C N z hi hv) (h : sliceAt z.m x lo hi sz = some v) : ∃ v', (Instr.sliceAt t xv lv hv none).run C.P w = .ok v' w ∧ R C.P N z v v' := by
  simp only [sizeT, Option.map_eq_some_iff] at hs
  obtain ⟨i', hi', rfl⟩ := hs
  cases x with
  | sl es tk =>
    simp only [sliceAt] at h
    split at h
    · rename_i hd
      simp only [Option.map_eq_some_iff] at h
      obtain ⟨⟨l, q⟩, hb, rfl⟩ := h
      obtain ⟨a, cap, st, rfl, h1, h1', h2, h3, h4, h5⟩ := R_sl.1 hx
      obtain ⟨b1, b2, b3⟩ := bounds_sound (w := w) h1 true hl hh hb
      have hlen : ((es.drop l).take (q - l)).length = q - l := by simp; omega
      have htk : ∀ A : Option Addr, TkRep z (q - l) st A (cap - l) (sltk es tk) := fun A => by
        cases es with
        | cons e r => trivial
        | nil => cases tk with
          | tight =>
            have hc : cap = 0 := h5
            show cap - l = q - l
            simp only [List.length_nil] at b2
            omega
          | _ => trivial
      refine ⟨.slice (if cap = l then a else a.map (·.add (l * i'.size))) (q - l) (cap - l), by simp [Instr.sliceAt, Instr.slice, run_underlying ht, b3, sizeOf, typeInfo, hi'], R_sl.2 ⟨_, cap - l, st, by rw [hlen], by rw [hlen]; omega, by omega, fun h => ?_, fun e he => h3 e (List.mem_of_mem_drop (List.mem_of_mem_take he)), fun i e he => ?_, by rw [hlen]; exact htk _⟩⟩
      · split at h
        · omega
        · have := h2 (by simpa using h); omega
      · rw [List.getElem?_take] at he
        split at he
        · rename_i hil
          rw [List.getElem?_drop] at he
          obtain ⟨b, o, rfl, h6⟩ := h4 _ _ he
          have hst : st = i'.size := hd_size hd h3 (by intro h; subst h; simp at he)
          subst hst
          refine ⟨b, o + l * i'.size, ?_, ?_⟩
          · rw [if_neg (by omega)]
            simp only [Option.map_some, add_none]
          · rw [show o + l * i'.size + i * i'.size = o + (l + i) * i'.size by rw [Nat.add_mul]; omega]; exact h6
        · cases he
    · cases h
  | ref id off len =>
    simp only [sliceAt] at h
    split at h
    · rename_i hc
      simp only [Option.map_eq_some_iff] at h
      obtain ⟨⟨l, q⟩, hb, rfl⟩ := h
      obtain ⟨es, hbk⟩ := lsz_some hc
      obtain ⟨hid, _, hx⟩ := R_ref.1 hx
      obtain ⟨cap, rfl, h1, h2, h3⟩ := hx es _ hbk
      obtain ⟨b1, b2, b3⟩ := bounds_sound (w := w) h1 true hl hh hb
      by_cases hlq : l = q ∧ l ≠ 0
      · rw [if_pos hlq]
        obtain ⟨hlq, _⟩ := hlq
        subst hlq
        obtain ⟨A, hA⟩ : ∃ A : Addr, (if cap = l then some (⟨z.ρ id, off * i'.size, none⟩ : Addr) else some ((⟨z.ρ id, off * i'.size, none⟩ : Addr).add (l * i'.size))) = some A := by split <;> exact ⟨_, rfl⟩
        exact ⟨.slice (some A) 0 (cap - l), by simp [Instr.sliceAt, Instr.slice, run_underlying ht, b3, sizeOf, typeInfo, hi', hA], R_sl.2 ⟨some A, cap - l, 0, rfl, Nat.zero_le _, by omega, (fun h => by cases h), (fun e he => by cases he), (fun i e he => by simp at he), trivial⟩⟩
      · rw [if_neg hlq]
        by_cases hl0 : l = 0
        · subst hl0
          have e0 : (if cap = 0 then some (⟨z.ρ id, off * i'.size, none⟩ : Addr) else some ((⟨z.ρ id, off * i'.size, none⟩ : Addr).add (0 * i'.size))) = some ⟨z.ρ id, off * i'.size, none⟩ := by
            split
            · rfl
            · simp [add_none]
          refine ⟨.slice (some ⟨z.ρ id, off * i'.size, none⟩) (q - 0) (cap - 0), by simp [Instr.sliceAt, Instr.slice, run_underlying ht, b3, sizeOf, typeInfo, hi', add_none], R_ref.2 ⟨hid, ⟨_, _, _, rfl⟩, fun es2 sz2 hb2 => ?_⟩⟩
          rw [hbk] at hb2; cases hb2
          exact ⟨cap, rfl, by omega, by omega, by simpa using h3⟩
        have hcl : ¬cap = l := by omega
        refine ⟨.slice (some ⟨z.ρ id, off * i'.size + l * i'.size, none⟩) (q - l) (cap - l), by simp [Instr.sliceAt, Instr.slice, run_underlying ht, b3, sizeOf, typeInfo, hi', hcl, add_none], R_ref.2 ⟨hid, ⟨_, _, _, rfl⟩, fun es2 sz2 hb2 => ?_⟩⟩
        rw [hbk] at hb2; cases hb2
        exact ⟨cap - l, by rw [Nat.add_mul], by omega, by omega, by rw [show off + l + (cap - l) = off + cap by omega]; exact h3⟩
    · cases h
  | _ => simp [sliceAt] at h
theorem aslice_sound {t e : TypeId} {n : Nat} (ht : C.P.underlying t = some (.array n e)) (hs : sizeT C.P e = some 1) {x v : AV} {xv : Value} (hx : R C.P N z x xv) {lo hi : Option AV} {lv hv : Option Value}
    (hl : OB C N z lo lv) (hh : OB C N z hi hv) (h : asliceAt x lo hi n = some v) : ∃ v', (Instr.sliceAt t xv lv hv none).run C.P w = .ok v' w ∧ R C.P N z v v' := by
  simp only [sizeT, Option.map_eq_some_iff] at hs
  obtain ⟨i', hi', hsz⟩ := hs
  cases x with
  | pv e0 off =>
    simp only [asliceAt] at h
    split at h
    · rename_i hc
      obtain ⟨⟨hc1, hc2⟩, hc3⟩ := hc
      simp only [Option.map_eq_some_iff] at h
      obtain ⟨⟨l, q⟩, hb, rfl⟩ := h
      obtain ⟨b, o, rfl, hat⟩ := R_pv.1 hx
      obtain ⟨b1, b2, b3⟩ := bounds_sound (w := w) (Nat.le_refl n) false hl hh hb
      have hlen : ((e0.cells.drop (off + l)).take (q - l)).length = q - l := by rw [List.length_take, List.length_drop]; omega
      have hone : ∀ a ∈ e0.cells, a.cells = [a] := fun a ha => by
        have := List.all_eq_true.1 hc3 a ha
        cases a <;> first | rfl | simp [AV.solid] at this
      refine ⟨.slice (some (if n = l then (⟨b, o + off, none⟩ : Addr) else (⟨b, o + off, none⟩ : Addr).add (l * i'.size))) (q - l) (n - l), by simp [Instr.sliceAt, Instr.sureAddr, run_underlying ht, b3, sizeOf, typeInfo, hi'], R_sl.2 ⟨_, n - l, 1, by rw [hlen], by rw [hlen]; omega, ?_, (fun h => by cases h), fun e he => ?_, fun i e he => ?_, trivial⟩⟩
      · have : (1024 : Nat) ≤ maxLen := by unfold maxLen; decide
        omega
      · rw [hone e (List.mem_of_mem_drop (List.mem_of_mem_take he))]; rfl
      · have hm := List.mem_of_mem_drop (List.mem_of_mem_take (List.mem_of_getElem? he))
        rw [List.getElem?_take] at he
        split at he
        · rename_i hil
          rw [List.getElem?_drop] at he
          obtain ⟨u, h5, h6, h7, h8⟩ := hat _ _ he
          refine ⟨b, o + off + l, ?_, fun j a ha => ?_⟩
          · rw [if_neg (by omega), hsz, add_none, Nat.mul_one]
          · rw [hone e hm] at ha
            cases j with
            | succ j => simp at ha
            | zero =>
              simp at ha; subst ha
              rw [show o + off + l + i * 1 + 0 = o + (off + l + i) by omega]
              exact ⟨u, h5, h6, h7, h8⟩
        · cases he
    · cases h
  | _ => simp [asliceAt] at h
theorem aps_sound {t e : TypeId} {n : Nat} (ht : C.P.underlying t = some (.array n e)) (hs : sizeT C.P e = some 1) {x v : AV} {xv : Value} (hx : R C.P N z x xv) {lv hv : Option Value}
    (hl : OB C N z none lv) (hh : OB C N z none hv) (h : apsAt z.m x n = some v) : ∃ v', (Instr.sliceAt t xv lv hv none).run C.P w = .ok v' w ∧ R C.P N z v v' := by
  simp only [sizeT, Option.map_eq_some_iff] at hs
  obtain ⟨i', hi', hsz⟩ := hs
  unfold apsAt at h
  split at h
  · rename_i id ix off
    split at h
    · rename_i hlv
      cases h
      obtain ⟨es, sz, hb⟩ : ∃ es sz, z.m.blks[id]? = some (.live es sz) := by
        unfold lsz at hlv
        split at hlv
        · exact ⟨_, _, by assumption⟩
        · cases hlv
      obtain ⟨hid, _, hp⟩ := R_ptr.1 hx
      have hpv := hp es sz hb
      subst hpv
      obtain ⟨b1, b2, b3⟩ := bounds_sound (w := w) (len := n) (l := 0) (h := n) (Nat.le_refl n) false hl hh (by simp [bounds])
      refine ⟨.slice (some (if n = 0 then (⟨z.ρ id, ix * sz + off, none⟩ : Addr) else (⟨z.ρ id, ix * sz + off, none⟩ : Addr).add (0 * i'.size))) (n - 0) (n - 0), by simp [Instr.sliceAt, Instr.sureAddr, run_underlying ht, b3, sizeOf, typeInfo, hi'], R_aps.2 ⟨hid, ⟨_, _, _, rfl⟩, fun es' sz' hb' => ?_⟩⟩
      rw [hb] at hb'
      cases hb'
      split
      · rfl
      · rw [Nat.zero_mul, add_none]; rfl
    · cases h
  · cases h
theorem sliceStr_sound {t : TypeId} (ht : C.P.underlying t = some .string) {x v : AV} {xv : Value} (hx : R C.P N z x xv) {lo hi : Option AV} {lv hv : Option Value}
    (hl : OB C N z lo lv) (hh : OB C N z hi hv) (h : ssliceAt x lo hi = some v) : ∃ v', (Instr.sliceAt t xv lv hv none).run C.P w = .ok v' w ∧ R C.P N z v v' := by
  cases x with
  | str b =>
    obtain rfl := R_of_str hx
    simp only [ssliceAt, Option.map_eq_some_iff] at h
    obtain ⟨⟨l, q⟩, hb, rfl⟩ := h
    obtain ⟨_, _, b3⟩ := bounds_sound (w := w) (Nat.le_refl _) false hl hh hb
    exact ⟨_, by simp [Instr.sliceAt, Instr.slice, run_underlying ht, b3], R_str.2 rfl⟩
  | _ => simp [ssliceAt] at h

theorem len_sound {t e : TypeId} (ht : C.P.underlying t = some (.slice e)) (ty : TypeId) {x v : AV} {xv : Value} (hx : R C.P N z x xv) (h : lenAt z.m x = some v) :
    ∃ v', (Builtin.len_ #[t] ty #[xv]).run C.P w = .ok v' w ∧ R C.P N z v v' := by
  cases x with
  | sl es tk =>
    simp only [lenAt, Option.some.injEq] at h
    subst h
    obtain ⟨a, cap, st, rfl, _⟩ := R_sl.1 hx
    exact ⟨.int .i64 es.length, by simp [Builtin.len_, run_underlying ht, goInt], R_int.2 rfl⟩
  | ref id off len =>
    simp only [lenAt] at h
    split at h
    · rename_i hl
      cases h
      obtain ⟨es, n, hb⟩ := lsz_isSome hl
      obtain ⟨_, _, hx⟩ := R_ref.1 hx
      obtain ⟨cap, rfl, _⟩ := hx es n hb
      exact ⟨.int .i64 len, by simp [Builtin.len_, run_underlying ht, goInt], R_int.2 rfl⟩
    · cases h
  | _ => simp [lenAt] at h
theorem lenStr_sound {t : TypeId} (ht : C.P.underlying t = some .string) (ty : TypeId) {x v : AV} {xv : Value} (hx : R C.P N z x xv) (h : slenAt x = some v) :
    ∃ v', (Builtin.len_ #[t] ty #[xv]).run C.P w = .ok v' w ∧ R C.P N z v v' := by
  cases x with
  | str b =>
    obtain rfl := R_of_str hx
    simp only [slenAt, Option.some.injEq] at h
    subst h
    exact ⟨.int .i64 b.size, by simp [Builtin.len_, run_underlying ht, goInt], R_int.2 rfl⟩
  | _ => simp [slenAt] at h

theorem make_sound (hG : Good C N z) (hh : z.h = w.heap) {t e : TypeId} (ht : C.P.underlying t = some (.slice e)) {i : TypeInfo} (hi : C.P.info? e = some i) {z0 : AV} (hz : zeroT C.P e = some z0) {l c v : AV} {lv cv : Value}
    (hl : R C.P N z l lv) (hc : R C.P N z c cv) {m' : Mem} (h : makeAt z.m z0 i.size i.bytes l c = some (v, m')) : OpRes C N z m' v w ((do pure (.value (← Instr.makeSlice t lv cv)) : Sem Next).run C.P w) := by
  unfold makeAt at h
  split at h
  · rename_i ln cn e1 e2
    split at h
    · rename_i hcond
      obtain ⟨⟨c1, rfl⟩, c3, c4, c5⟩ := hcond
      simp only [Option.some.injEq, Prod.mk.injEq] at h
      obtain ⟨rfl, rfl⟩ := h
      obtain ⟨k, rfl⟩ := asIntOf_sound e1 hl
      obtain ⟨k', rfl⟩ := asIntOf_sound e2 hc
      obtain ⟨n, rfl⟩ := Int.eq_ofNat_of_zero_le c1
      rw [Int.toNat_natCast] at c3
      simp only [Int.toNat_natCast] at *
      obtain ⟨b1, b2, b3⟩ := limit_lt (n := n) (m := 0) (by simpa using c3)
      simp only [Nat.add_zero] at b1 b2 b3
      obtain ⟨x0, hx0, hr0⟩ : ∃ x0, i.zero = some x0 ∧ R C.P N z z0 x0 := by
        simp only [zeroT, Option.bind_eq_some_iff] at hz
        obtain ⟨i2, hi2, x0, h1, h2⟩ := hz
        rw [hi] at hi2; cases hi2
        exact ⟨x0, h1, trVal_sound h2⟩
      have hcs := cells_sound hr0 c5
      have hxs : x0.cells.size = i.size := by have := hcs.1; simp at this; omega
      have hrun := run_make (P := C.P) w t e i x0 ht hi hx0 k k' (n : Int) (n : Int) (by omega) (Int.le_refl _) (by
        have : (i.bytes : Int) * (n : Int) = ((n * i.bytes : Nat) : Int) := by rw [Int.natCast_mul, Int.mul_comm]
        rw [this]; omega) (by omega)
      simp only [Int.toNat_natCast] at hrun
      have hsize := size_madeCells x0.cells (n * i.size)
      refine ⟨_, w.alloc (.cells (madeCells x0.cells (n * i.size)) e), z.grow (.cells (madeCells x0.cells (n * i.size)) e (0, 0)) (.live (List.replicate n z0) i.size), .inl (by simp [hrun]; rfl), ?_, grow_good hG (fun es sz hk => ?_) (fun _ _ _ _ _ _ hk => by cases hk), grow_tr hG _ _, ?_, rfl, ⟨rfl, rfl, rfl⟩⟩
      · refine R_ref.2 ⟨by simp [Z.grow], ⟨_, _, _, rfl⟩, fun es sz hb => ?_⟩
        rcases get_snoc hb with ⟨_, hi2⟩ | ⟨_, hk⟩
        · omega
        · cases hk
          refine ⟨n, by simp [Z.grow, hh], Nat.le_refl _, by omega, ?_⟩
          unfold csize; simp [Z.grow, hsize]
      · cases hk
        refine ⟨_, e, rfl, by rw [hsize]; simp, fun i2 e2 he => ?_⟩
        have hi2 : i2 < n := by have := (List.getElem?_eq_some_iff.1 he).1; simpa using this
        have he2 : e2 = z0 := by simp [List.getElem?_replicate, hi2] at he; exact he.symm
        subst he2
        refine ⟨c4, fun j a ha => ?_⟩
        obtain ⟨u, h1, h2, h3⟩ := RL_get hcs ha
        have hj : j < i.size := by have := (List.getElem?_eq_some_iff.1 ha).1; omega
        refine ⟨u, ?_, h3, h2⟩
        have hlt := mul_slot hi2 hj
        have hmod : (i2 * i.size + j) % x0.cells.size = j := by rw [hxs, Nat.add_comm, Nat.add_mul_mod_self_right, Nat.mod_eq_of_lt hj]
        simp only [madeCells, Array.getElem?_map]
        rw [Array.getElem?_range, if_pos hlt]
        simp only [Option.map_some, hmod]
        rw [Array.getElem?_toList] at h1
        rw [getElem!_def, h1]
      · show z.h.push _ = _; rw [hh]; rfl
    · cases h
  · cases h

theorem conv_sound {src dst : TypeId} {k : IntKind} {d : TypeDesc} (hs : C.P.underlying src = some d) (hd : C.P.underlying dst = some (.int k)) (q : IntKind) (n : Int) : (convert src dst (.int q n)).run C.P w = .ok (.int k (k.wrap n)) w := by
  simp [convert, run_underlying hs, run_underlying hd, Conv.intToInt]
theorem mnx_sound (mx : Bool) (ts : Array TypeId) (ty : TypeId) {a b v : AV} {x y : Value} (ha : R C.P N z a x) (hb : R C.P N z b y) (h : mnx mx a b = some v) :
    ∃ v', (if mx then Builtin.max_ ts ty #[x, y] else Builtin.min_ ts ty #[x, y]).run C.P w = .ok v' w ∧ R C.P N z v v' := by
  unfold mnx at h
  split at h
  · split at h
    · rename_i k p k' q hk
      cases h
      obtain rfl := R_of_int ha
      obtain rfl := R_of_int hb
      cases mx
      · exact ⟨_, by simp [Builtin.min_, Builtin.min2], R_int.2 rfl⟩
      · exact ⟨_, by simp [Builtin.max_, Builtin.max2], R_int.2 rfl⟩
    · cases h
  · cases h
theorem mnl_sound (mx : Bool) : ∀ (bs : List AV) (ys : List Value) {a v : AV} {x : Value} (_ : R C.P N z a x) (_ : RL (R C.P N z) bs ys) (_ : mnl mx a bs = some v),
    ∃ v', (ys.foldlM (if mx then Builtin.max2 else Builtin.min2) x : Sem Value).run C.P w = .ok v' w ∧ R C.P N z v v'
  | [], ys, a, v, x, ha, hb, h => by
    cases ys with
    | cons y ys => have := hb.1; simp at this
    | nil => cases h; exact ⟨x, by simp, ha⟩
  | b :: bs, ys, a, v, x, ha, hb, h => by
    cases ys with
    | nil => have := hb.1; simp at this
    | cons y ys =>
      obtain ⟨u, h1, h2⟩ := Option.bind_eq_some_iff.1 h
      have hy : R C.P N z b y := hb.2 0 b y rfl rfl
      have hb' : RL (R C.P N z) bs ys := ⟨by have := hb.1; simpa using this, fun i p q hp hq => hb.2 (i + 1) p q hp hq⟩
      obtain ⟨u', h3, h4⟩ : ∃ u', ((if mx then Builtin.max2 else Builtin.min2) x y : Sem Value).run C.P w = .ok u' w ∧ R C.P N z u u' := by
        obtain ⟨u', h5, h6⟩ := mnx_sound (w := w) mx #[] 0 ha hy h1
        refine ⟨u', ?_, h6⟩
        cases mx <;> simpa [Builtin.max_, Builtin.min_] using h5
      obtain ⟨v', h7, h8⟩ := mnl_sound mx bs ys h4 hb' h2
      refine ⟨v', ?_, h8⟩
      rw [List.foldlM_cons]
      simp only [Sem.run_bind, h3]
      exact h7
end
end Go.Ab
end

section
/-
  Appends into memory of one's own; copies.
-/
namespace Go.Ab
section
variable {C : Cx} {N : Nat → Nat → Prop} {z : Z} {w : World}

theorem append0_sound (hG : Good C N z) (hh : z.h = w.heap) {t e : TypeId} (ht : C.P.underlying t = some (.slice e)) {i : TypeInfo} (hi : C.P.info? e = some i) {z0 : AV} (hz0 : zeroT C.P e = some z0) (hzl : z0.cells.length = i.size)
    (hzs : z0.solids = true) (ty : TypeId) {s x v : AV} {sv xv : Value} (hs : R C.P N z s sv) (hx : R C.P N z x xv) {m' : Mem} (h : append0 z.m s x i.size i.bytes = some (v, m')) :
    OpRes C N z m' v w ((do pure (.value (← Builtin.append_ #[t, t] ty #[sv, xv])) : Sem Next).run C.P w) := by
  unfold append0 at h
  split at h
  · rename_i ys hys
    obtain ⟨a, cap, st, rfl, h1, h2, h3, h4, h5, htk⟩ := R_sl.1 hs
    simp only [List.length_nil] at *
    obtain rfl : cap = 0 := htk
    split at h
    · rename_i hc
      obtain ⟨⟨hlim, hd⟩, hne⟩ := hc
      simp only [Option.some.injEq, Prod.mk.injEq] at h
      obtain ⟨rfl, rfl⟩ := h
      obtain ⟨a', c, L', rfl, hc1, hc2, hr', hL'⟩ := elems_sound hG hx hys hd
      obtain ⟨x0, hx0, hrx0⟩ : ∃ x0, i.zero = some x0 ∧ R C.P N z z0 x0 := by
        simp only [zeroT, Option.bind_eq_some_iff] at hz0
        obtain ⟨i2, hi2, x0, h1, h2⟩ := hz0
        rw [hi] at hi2; cases hi2
        exact ⟨x0, h1, trVal_sound h2⟩
      have hxs : x0.cells.size = i.size := by have := (cells_sound hrx0 hzs).1; simp at this; omega
      have hy0 : 0 < ys.length := List.length_pos_iff.2 hne
      obtain ⟨cap', cs, e1, e2, e3, e4, e5⟩ := grow_run (z := z) (N := N) (a := a) (a' := a') (c := c) (cap := 0) hh ht hi hx0 ty (Rows.nil i.size) hr' hne (by simpa using hy0) (fun _ => ⟨rfl, rfl⟩) (fun h => absurd rfl h) hL' (by simpa using hlim)
      simp only [List.length_nil, Nat.zero_add, List.nil_append] at e1 e2 e4 e5
      have hsz : cs.size = cap' * i.size := by rw [e4, hxs, ← Nat.add_mul]; congr 1; omega
      refine ⟨_, w.drew.alloc (.cells cs e), z.grow (.cells cs e (0, 0)) (.live ys i.size), .inl (by simp [e1]; rfl), ?_, grow_good hG (fun es sz hk => ?_) (fun _ _ _ _ _ _ hk => by cases hk), grow_tr hG _ _, ?_, rfl, ⟨rfl, rfl, rfl⟩⟩
      · refine R_ref.2 ⟨by simp [Z.grow], ⟨_, _, _, rfl⟩, fun es sz hb => ?_⟩
        rcases get_snoc hb with ⟨_, hi2⟩ | ⟨_, hk⟩
        · omega
        · cases hk
          refine ⟨cap', by simp [Z.grow, hh], e2, by omega, ?_⟩
          unfold csize; simp [Z.grow, hsz]
      · cases hk
        refine ⟨cs, e, rfl, by rw [hsz]; exact Nat.mul_le_mul_right _ e2, fun i2 e2' he => ⟨(hr'.2.2 i2 e2' he).1, fun j a ha => ?_⟩⟩
        obtain ⟨u, g1, g2, g3⟩ := (hr'.2.2 i2 e2' he).2 j a ha
        exact ⟨u, e5 _ _ g1, g2, g3⟩
      · show z.h.push _ = _; rw [hh]; rfl
    · split at h
      · rename_i hy
        subst hy
        simp only [Option.some.injEq, Prod.mk.injEq] at h
        obtain ⟨rfl, rfl⟩ := h
        obtain ⟨a', c, L', rfl, _⟩ := elems_sound (sz := 0) hG hx hys rfl
        exact ⟨_, w, z, .inl (by simp [run_append_zero (C := C) (w := w) t ty e ht hi a 0 0 (Nat.le_refl _) a' c]; rfl), by simpa using hs, hG, Tr.refl z, hh, rfl, WS.refl w⟩
      · cases h
  · cases h

/-- Elements of a block, some of them replaced: its cells. -/
theorem replace_cells {es ys : List AV} {sz p : Nat} {cs cs' : Array Value} {L : List Value} (hp : p + ys.length ≤ es.length)
    (h : ∀ (i : Nat) e, es[i]? = some e → e.cells.length = sz ∧ ∀ (j : Nat) a, e.cells[j]? = some a → ∃ u, cs[i * sz + j]? = some u ∧ u.oneCell' = true ∧ R C.P N z a u) (hr : Rows C N z ys sz L)
    (hget : ∀ k, cs'[k]? = if k < p * sz then cs[k]? else if k < p * sz + L.length then L[k - p * sz]? else cs[k]?) :
    ∀ (i : Nat) e, (es.take p ++ ys ++ es.drop (p + ys.length))[i]? = some e → e.cells.length = sz ∧ ∀ (j : Nat) a, e.cells[j]? = some a → ∃ u, cs'[i * sz + j]? = some u ∧ u.oneCell' = true ∧ R C.P N z a u := by
  intro i e he
  rw [splice_get es ys p i hp] at he
  by_cases h1 : i < p
  · rw [if_pos h1] at he
    refine ⟨(h i e he).1, fun j a ha => ?_⟩
    obtain ⟨u, g1, g2⟩ := (h i e he).2 j a ha
    have hj : j < sz := by have := (List.getElem?_eq_some_iff.1 ha).1; have := (h i e he).1; omega
    exact ⟨u, by rw [hget, if_pos (mul_slot h1 hj)]; exact g1, g2⟩
  · rw [if_neg h1] at he
    have hm : p * sz ≤ i * sz := Nat.mul_le_mul_right _ (by omega)
    by_cases h2 : i < p + ys.length
    · rw [if_pos h2] at he
      refine ⟨(hr.2.2 _ e he).1, fun j a ha => ?_⟩
      obtain ⟨u, g1, g2⟩ := (hr.2.2 _ e he).2 j a ha
      have hlt := (List.getElem?_eq_some_iff.1 g1).1
      have hsub : (i - p) * sz = i * sz - p * sz := Nat.sub_mul _ _ _
      refine ⟨u, ?_, g2⟩
      rw [hget, if_neg (by omega), if_pos (by omega), ← g1]
      congr 1; omega
    · rw [if_neg h2] at he
      refine ⟨(h i e he).1, fun j a ha => ?_⟩
      obtain ⟨u, g1, g2⟩ := (h i e he).2 j a ha
      have hm2 : (p + ys.length) * sz ≤ i * sz := Nat.mul_le_mul_right _ (by omega)
      rw [Nat.add_mul] at hm2
      exact ⟨u, by rw [hget, if_neg (by omega), if_neg (by rw [hr.1]; omega)]; exact g1, g2⟩

theorem solid_cells {a : AV} (h : a.solid = true) : a.cells = [a] := by cases a <;> first | rfl | cases h
theorem copy_sound (hG : Good C N z) (hh : z.h = w.heap) {t u e : TypeId} (ht : C.P.underlying t = some (.slice e)) {sz : Nat} (hs : sizeT C.P e = some sz) (ty : TypeId) {d x v : AV} {dv xv : Value} (hd : R C.P N z d dv) (hx : R C.P N z x xv)
    {m' : Mem} (h : copyAt z.m d x sz = some (v, m')) : OpRes C N z m' v w ((do pure (.value (← Builtin.copy_ #[t, u] ty #[dv, xv])) : Sem Next).run C.P w) := by
  simp only [sizeT, Option.map_eq_some_iff] at hs
  obtain ⟨i', hi', rfl⟩ := hs
  unfold copyAt at h
  split at h
  · rename_i id ix off n ys hys
    unfold copyArr at h
    split at h
    · rename_i es k0 hb
      split at h
      · rename_i e0 he0
        split at h
        · rename_i hc
          obtain ⟨⟨hhd, hs1⟩, hsol⟩ := hc
          simp only [Option.map_eq_some_iff, Prod.mk.injEq] at h
          obtain ⟨e', hw, rfl, rfl⟩ := h
          obtain ⟨hid, _, hd⟩ := R_aps.1 hd
          have hdv := hd es _ hb
          subst hdv
          obtain ⟨a', c, L', rfl, hc1, hc2, hr', hL'⟩ := elems_sound hG hx hys hhd
          obtain ⟨k, hk⟩ : ∃ k, k = min ys.length n := ⟨_, rfl⟩
          rw [← hk] at hw ⊢
          have hky : k ≤ ys.length := by omega
          have hsk : (ys.take k).all AV.solid = true := List.all_eq_true.2 fun a ha => List.all_eq_true.1 hsol a (List.mem_of_mem_take ha)
          have hrl : RL (fun a u => R C.P N z a u ∧ u.oneCell' = true) (ys.take k) (L'.take k) := by
            refine ⟨by rw [List.length_take, List.length_take, hr'.1, hs1, Nat.mul_one], fun i a u ha hu => ?_⟩
            rw [List.getElem?_take] at ha hu
            split at ha
            · rename_i hik
              rw [if_pos hik] at hu
              have hone := solid_cells (List.all_eq_true.1 hsol a (List.mem_of_getElem? ha))
              obtain ⟨u', q1, q2⟩ := (hr'.2.2 i a ha).2 0 a (by rw [hone]; rfl)
              rw [hs1, Nat.mul_one, Nat.add_zero, hu] at q1
              cases q1
              exact ⟨q2.2, q2.1⟩
            · cases ha
          obtain ⟨cs', T, hst, hgood, htr, hhp⟩ := put_cells (w := w) hG hh hb he0 hw hsk hrl
          have hfirst : (Builtin.firstCells i'.size k (.slice a' ys.length c)).run C.P w = .ok (L'.take k).toArray w := by
            by_cases hy : ys = []
            · have hk0 : k = 0 := by rw [hy] at hky; simpa using hky
              subst hk0
              cases a' <;> simp [Builtin.firstCells, loadCells, loadCellsFrom]
            · obtain ⟨b, o, rfl, hcell⟩ := hL' hy
              refine run_firstCells_some (P := C.P) w i'.size k ⟨b, o, none⟩ ys.length c _ (by rw [hs1, Nat.mul_one, List.length_take, hr'.1, hs1]; omega) fun j u hu => ?_
              rw [List.getElem?_take] at hu
              split at hu
              · rw [add_none, cell_eq, ← hh]; exact hcell j u hu
              · cases hu
          refine ⟨_, w.setRow (z.ρ id) cs', z.putB id (.live (es.set ix e') k0) (.cells cs' T (0, 0)), .inl ?_, R_int.2 rfl, hgood, htr, hhp, rfl, ⟨rfl, rfl, rfl⟩⟩
          have hmin : Nat.min ys.length n = k := hk.symm
          simp [Builtin.copy_, run_underlying ht, Builtin.lenOf, hmin, sizeOf, typeInfo, hi', hfirst, hst, goInt]
        · cases h
      · cases h
    · cases h
  · rename_i id off len ys hys
    split at h
    · rename_i es n hb
      split at h
      · rename_i hc
        obtain ⟨⟨hle, hhd⟩, rfl⟩ := hc
        simp only [Option.some.injEq, Prod.mk.injEq] at h
        obtain ⟨rfl, rfl⟩ := h
        obtain ⟨hid, _, hd⟩ := R_ref.1 hd
        obtain ⟨cap, rfl, h1, h2, h3⟩ := hd es _ hb
        obtain ⟨a', c, L', rfl, hc1, hc2, hr', hL'⟩ := elems_sound hG hx hys hhd
        obtain ⟨cs, T, g1, g2, g3⟩ := hG.live id es _ hb
        -- the first elements of the source
        obtain ⟨k, hk⟩ : ∃ k, k = min ys.length len := ⟨_, rfl⟩
        have hky : k ≤ ys.length := by omega
        have hr : Rows C N z (ys.take k) i'.size (L'.take (k * i'.size)) := by
          refine ⟨?_, fun u hu => hr'.2.1 u (List.mem_of_mem_take hu), fun i e he => ?_⟩
          · have := Nat.mul_le_mul_right i'.size hky
            rw [List.length_take, List.length_take, hr'.1, Nat.min_eq_left this, Nat.min_eq_left hky]
          · rw [List.getElem?_take] at he
            split at he
            · rename_i hik
              refine ⟨(hr'.2.2 i e he).1, fun j a ha => ?_⟩
              obtain ⟨u, q1, q2⟩ := (hr'.2.2 i e he).2 j a ha
              have hj : j < i'.size := by have := (List.getElem?_eq_some_iff.1 ha).1; have := (hr'.2.2 i e he).1; omega
              exact ⟨u, by rw [List.getElem?_take, if_pos (mul_slot hik hj)]; exact q1, q2⟩
            · cases he
        have hyk : (ys.take k).length = k := by simp; omega
        have g1w : w.heap[z.ρ id]? = some (.cells cs T (0, 0)) := by rw [← hh]; exact g1
        have hfirst : (Builtin.firstCells i'.size k (.slice a' ys.length c)).run C.P w = .ok (L'.take (k * i'.size)).toArray w := by
          by_cases hy : ys = []
          · have hk0 : k = 0 := by rw [hy] at hky; simpa using hky
            subst hk0
            cases a' <;> simp [Builtin.firstCells, loadCells, loadCellsFrom]
          · obtain ⟨b, o, rfl, hcell⟩ := hL' hy
            refine run_firstCells_some (P := C.P) w i'.size k ⟨b, o, none⟩ ys.length c _ (by rw [hr.1, hyk]) fun j u hu => ?_
            rw [List.getElem?_take] at hu
            split at hu
            · rw [add_none, cell_eq, ← hh]; exact hcell j u hu
            · cases hu
        have hfit : off * i'.size + (L'.take (k * i'.size)).length ≤ cs.size := by
          rw [hr.1, hyk, ← Nat.add_mul]
          exact Nat.le_trans (Nat.mul_le_mul_right _ (by omega)) g2
        have hst := run_storeCells_at C.P (z.ρ id) (off * i'.size) T (L'.take (k * i'.size)) 0 cs w g1w (by simpa using hfit) hr.2.1
        simp only [Nat.add_zero] at hst
        obtain ⟨cs', hcs'⟩ : ∃ cs', cs' = (cs.toList.take (off * i'.size) ++ L'.take (k * i'.size) ++ cs.toList.drop (off * i'.size + (L'.take (k * i'.size)).length)).toArray := ⟨_, rfl⟩
        rw [← hcs'] at hst
        have hsz2 : cs'.size = cs.size := by rw [hcs']; simpa using splice_length cs.toList (L'.take (k * i'.size)) (off * i'.size) (by simpa using hfit)
        have hget : ∀ q, cs'[q]? = if q < off * i'.size then cs[q]? else if q < off * i'.size + (L'.take (k * i'.size)).length then (L'.take (k * i'.size))[q - off * i'.size]? else cs[q]? := fun q => by
          rw [hcs']
          have := splice_get cs.toList (L'.take (k * i'.size)) (off * i'.size) q (by simpa using hfit)
          simpa using this
        have hrep := replace_cells (C := C) (N := N) (z := z) (es := es) (ys := ys.take k) (p := off) (cs := cs) (cs' := cs') (by rw [hyk]; omega) g3 hr hget
        rw [hyk] at hrep
        rw [← hk]
        refine ⟨_, w.setRow (z.ρ id) cs', z.putB id (.live (es.take off ++ ys.take k ++ es.drop (off + k)) i'.size) (.cells cs' T (0, 0)), .inl ?_, R_int.2 rfl, putB_good hG hb g1 hsz2 (.inr ⟨_, rfl, ?_, hrep⟩), putB_tr hG hb g1 hsz2 (.inr ⟨_, rfl⟩), ?_, rfl, ⟨rfl, rfl, rfl⟩⟩
        · have hmin : Nat.min ys.length len = k := hk.symm
          simp [Builtin.copy_, run_underlying ht, Builtin.lenOf, hmin, sizeOf, typeInfo, hi', hfirst, hst, goInt]
        · have : (es.take off ++ ys.take k ++ es.drop (off + k)).length = es.length := by simp; omega
          rw [this, hsz2]; exact g2
        · rw [setRow_heap_eq g1w, ← hh]; rfl
      · cases h
    · cases h
  · cases h

/-- Zeros. -/
theorem zero_rows {z0 : AV} {x0 : Value} (hr0 : R C.P N z z0 x0) (hs : z0.solids = true) {sz : Nat} (hl : z0.cells.length = sz) (n : Nat) : Rows C N z (List.replicate n z0) sz (Builtin.zeroCells x0.cells n).toList ∧ x0.cells.size = sz := by
  have hcs := cells_sound hr0 hs
  have hxs : x0.cells.size = sz := by have := hcs.1; simp at this; omega
  have hget : ∀ k, k < n * sz → (Builtin.zeroCells x0.cells n).toList[k]? = x0.cells[k % sz]? := fun k hk => by
    have hsz : 0 < sz := by
      rcases Nat.eq_zero_or_pos sz with h0 | h0
      · subst h0; simp at hk
      · exact h0
    have hlt : k % x0.cells.size < x0.cells.size := Nat.mod_lt _ (by omega)
    rw [Array.getElem?_toList]
    simp only [Builtin.zeroCells, Array.getElem?_map, Array.getElem?_range, hxs]
    rw [if_pos hk]
    simp only [Option.map_some]
    rw [← hxs, getElem!_pos x0.cells (k % x0.cells.size) hlt, Array.getElem?_eq_getElem hlt]
  have hlen : (Builtin.zeroCells x0.cells n).toList.length = n * sz := by simp [Builtin.zeroCells, hxs]
  refine ⟨⟨by rw [hlen]; simp, fun u hu => ?_, fun i e he => ?_⟩, hxs⟩
  · obtain ⟨k, hk⟩ := List.mem_iff_getElem?.1 hu
    have hkl : k < n * sz := by have := (List.getElem?_eq_some_iff.1 hk).1; omega
    rw [hget k hkl] at hk
    have hlt : k % sz < z0.cells.length := by have := (Array.getElem?_eq_some_iff.1 hk).1; omega
    exact (hcs.2 (k % sz) _ u (List.getElem?_eq_getElem hlt) (by rw [Array.getElem?_toList]; exact hk)).2
  · have hi2 : i < n := by have := (List.getElem?_eq_some_iff.1 he).1; simpa using this
    have he2 : e = z0 := by simp [List.getElem?_replicate, hi2] at he; exact he.symm
    subst he2
    refine ⟨hl, fun j a ha => ?_⟩
    obtain ⟨u, h1, h2, h3⟩ := RL_get hcs ha
    have hj : j < sz := by have := (List.getElem?_eq_some_iff.1 ha).1; omega
    refine ⟨u, ?_, h3, h2⟩
    rw [hget _ (mul_slot hi2 hj), Nat.add_comm, Nat.add_mul_mod_self_right, Nat.mod_eq_of_lt hj]
    rw [Array.getElem?_toList] at h1
    exact h1
theorem clear_sound (hG : Good C N z) (hh : z.h = w.heap) {t e : TypeId} (ht : C.P.underlying t = some (.slice e)) {z0 : AV} (hz0 : zeroT C.P e = some z0) {sz : Nat} (hs : sizeT C.P e = some sz) (ty : TypeId) {x : AV} {xv : Value} (hx : R C.P N z x xv)
    {m' : Mem} (h : clearAt z.m x z0 sz = some m') : OpRes C N z m' .undef w ((do pure (.value (← Builtin.clear_ #[t] ty #[xv])) : Sem Next).run C.P w) := by
  unfold clearAt at h
  split at h
  · cases h
    obtain ⟨a, cap, st, rfl, _⟩ := R_sl.1 hx
    refine ⟨_, w, z, .inl ?_, R_undef (.tuple #[]), hG, Tr.refl z, hh, rfl, WS.refl w⟩
    cases a <;> simp [Builtin.clear_, run_underlying ht]
  · rename_i id off len
    split at h
    · rename_i es n hb
      split at h
      · rename_i hc
        obtain ⟨⟨⟨hle, hlen⟩, rfl⟩, hzl, hzs⟩ := hc
        cases h
        simp only [sizeT, Option.map_eq_some_iff] at hs
        obtain ⟨i', hi', hsz⟩ := hs
        obtain ⟨x0, hx0, hrx0⟩ : ∃ x0, i'.zero = some x0 ∧ R C.P N z z0 x0 := by
          simp only [zeroT, Option.bind_eq_some_iff] at hz0
          obtain ⟨i2, hi2, x0, h1, h2⟩ := hz0
          rw [hi'] at hi2; cases hi2
          exact ⟨x0, h1, trVal_sound h2⟩
        subst hsz
        obtain ⟨hr, hxs⟩ := zero_rows hrx0 hzs hzl len
        obtain ⟨hid, _, hx⟩ := R_ref.1 hx
        obtain ⟨cap, rfl, h1, h2, h3⟩ := hx es _ hb
        obtain ⟨cs, T, g1, g2, g3⟩ := hG.live id es _ hb
        have g1w : w.heap[z.ρ id]? = some (.cells cs T (0, 0)) := by rw [← hh]; exact g1
        obtain ⟨L, hL⟩ : ∃ L, L = (Builtin.zeroCells x0.cells len).toList := ⟨_, rfl⟩
        rw [← hL] at hr
        have hfit : off * i'.size + L.length ≤ cs.size := by
          rw [hr.1, List.length_replicate, ← Nat.add_mul]
          exact Nat.le_trans (Nat.mul_le_mul_right _ (by omega)) g2
        have hst := run_storeCells_at C.P (z.ρ id) (off * i'.size) T L 0 cs w g1w (by simpa using hfit) hr.2.1
        simp only [Nat.add_zero] at hst
        obtain ⟨cs', hcs'⟩ : ∃ cs', cs' = (cs.toList.take (off * i'.size) ++ L ++ cs.toList.drop (off * i'.size + L.length)).toArray := ⟨_, rfl⟩
        rw [← hcs'] at hst
        have hsz2 : cs'.size = cs.size := by rw [hcs']; simpa using splice_length cs.toList L (off * i'.size) (by simpa using hfit)
        have hget : ∀ q, cs'[q]? = if q < off * i'.size then cs[q]? else if q < off * i'.size + L.length then L[q - off * i'.size]? else cs[q]? := fun q => by
          rw [hcs']
          have := splice_get cs.toList L (off * i'.size) q (by simpa using hfit)
          simpa using this
        have hrep := replace_cells (C := C) (N := N) (z := z) (es := es) (ys := List.replicate len z0) (p := off) (cs := cs) (cs' := cs') (by rw [List.length_replicate]; omega) g3 hr hget
        rw [List.length_replicate] at hrep
        refine ⟨.tuple #[], w.setRow (z.ρ id) cs', z.putB id (.live (es.take off ++ List.replicate len z0 ++ es.drop (off + len)) i'.size) (.cells cs' T (0, 0)), .inl ?_, R_undef _, putB_good hG hb g1 hsz2 (.inr ⟨_, rfl, ?_, hrep⟩), putB_tr hG hb g1 hsz2 (.inr ⟨_, rfl⟩), ?_, rfl, ⟨rfl, rfl, rfl⟩⟩
        · obtain ⟨len', rfl⟩ : ∃ k, len = k + 1 := ⟨len - 1, by omega⟩
          simp [Builtin.clear_, run_underlying ht, zeroValue, typeInfo, hi', hx0, ← hL, hst]
        · have : (es.take off ++ List.replicate len z0 ++ es.drop (off + len)).length = es.length := by simp; omega
          rw [this, hsz2]; exact g2
        · rw [setRow_heap_eq g1w, ← hh]; rfl
      · cases h
    · cases h
  · cases h
theorem appz_sound (hG : Good C N z) (hh : z.h = w.heap) {t e u : TypeId} {ku : IntKind} (ht : C.P.underlying t = some (.slice e)) (hu : C.P.underlying u = some (.int ku)) {i : TypeInfo} (hi : C.P.info? e = some i) {z0 : AV} (hz0 : zeroT C.P e = some z0)
    (hsz : i.size ≠ 0) (ty : TypeId) {s x v : AV} {sv xv : Value} (hs : R C.P N z s sv) (hx : R C.P N z x xv) {m' : Mem} (h : appendZ z.m s x z0 i.size i.bytes = some (v, m')) :
    OpRes C N z m' v w ((do pure (.value (← Builtin.append_ #[t, u] ty #[sv, xv])) : Sem Next).run C.P w) := by
  unfold appendZ at h
  split at h
  · rename_i n hn
    split at h
    · rename_i hc
      obtain ⟨⟨hn0, hlim⟩, hzl, hzs⟩ := hc
      simp only [Option.some.injEq, Prod.mk.injEq] at h
      obtain ⟨rfl, rfl⟩ := h
      obtain ⟨k, rfl⟩ := asIntOf_sound hn hx
      obtain ⟨n, rfl⟩ := Int.eq_ofNat_of_zero_le (by omega : 0 ≤ n)
      simp only [Int.toNat_natCast] at *
      obtain ⟨a, cap, st, rfl, h1, h2, h3, h4, h5, htk⟩ := R_sl.1 hs
      simp only [List.length_nil] at *
      obtain rfl : cap = 0 := htk
      obtain ⟨x0, hx0, hrx0⟩ : ∃ x0, i.zero = some x0 ∧ R C.P N z z0 x0 := by
        simp only [zeroT, Option.bind_eq_some_iff] at hz0
        obtain ⟨i2, hi2, x0, h1, h2⟩ := hz0
        rw [hi] at hi2; cases hi2
        exact ⟨x0, h1, trVal_sound h2⟩
      obtain ⟨hr, hxs⟩ := zero_rows hrx0 hzs hzl n
      obtain ⟨b1, b2, b3⟩ := limit_lt (n := n) (m := 0) (by simpa using hlim)
      simp only [Nat.add_zero] at b1 b2 b3
      have hge := grownCap_ge w n 0 e
      have hle := grownCap_le_maxLen w n 0 e b1
      have hn1 : n ≠ 0 := by omega
      have hw : IntKind.i64.wrap (n : Int) = n := by rw [IntKind.wrap_i64]; omega
      have h63' : ¬ (9223372036854775807 < (n : Int)) := by omega
      have h48' : ¬ (281474976710656 < Builtin.nextslicecap n 0 * i.bytes) := by rw [nextslicecap_zero (by omega)]; omega
      have h48i : ¬ (281474976710656 < (n : Int) * (i.bytes : Int)) := by
        rw [← Int.natCast_mul]
        omega
      have hneg : ¬ ((n : Int) < 0) := by omega
      have hns : ¬ (n * i.size = 0) := Nat.mul_ne_zero hn1 hsz
      have hf : ∀ w' : World, (Builtin.firstCells i.size 0 (.slice a 0 0)).run C.P w' = .ok #[] w' := fun w' => by
        cases a <;> simp [Builtin.firstCells, loadCells, loadCellsFrom]
      have hrun : (Builtin.append_ #[t, u] ty #[.slice a 0 0, .int k (n : Int)]).run C.P w = .ok (.slice (some ⟨w.heap.size, 0, none⟩) n (grownCap w n 0 e)) (w.drew.alloc (.cells (Builtin.zeroCells x0.cells n ++ Builtin.zeroCells x0.cells (grownCap w n 0 e - n)) e)) := by
        simp [Builtin.append_, run_underlying ht, run_underlying hu, sizeOf, typeInfo, zeroValue, hi, hx0, Go.asInt, Go.asIntOf, hw, hn1, hneg, hns, h63', h48', h48i, Question.forced, hf, newRow, grownCap]
      obtain ⟨cap', hcap'⟩ : ∃ c, c = grownCap w n 0 e := ⟨_, rfl⟩
      rw [← hcap'] at hrun hge hle
      obtain ⟨cs, hcs⟩ : ∃ cs, cs = Builtin.zeroCells x0.cells n ++ Builtin.zeroCells x0.cells (cap' - n) := ⟨_, rfl⟩
      rw [← hcs] at hrun
      have hcsz : cs.size = cap' * i.size := by
        rw [hcs]
        simp only [Array.size_append, Builtin.zeroCells, Array.size_map, Array.size_range, hxs, ← Nat.add_mul]
        congr 1; omega
      refine ⟨_, w.drew.alloc (.cells cs e), z.grow (.cells cs e (0, 0)) (.live (List.replicate n z0) i.size), .inl (by simp [hrun]; rfl), ?_, grow_good hG (fun es sz hk => ?_) (fun _ _ _ _ _ _ hk => by cases hk), grow_tr hG _ _, ?_, rfl, ⟨rfl, rfl, rfl⟩⟩
      · refine R_ref.2 ⟨by simp [Z.grow], ⟨_, _, _, rfl⟩, fun es sz hb => ?_⟩
        rcases get_snoc hb with ⟨_, hi2⟩ | ⟨_, hk⟩
        · omega
        · cases hk
          refine ⟨cap', by simp [Z.grow, hh], hge, by omega, ?_⟩
          unfold csize; simp [Z.grow, hcsz]
      · cases hk
        refine ⟨cs, e, rfl, by rw [hcsz, List.length_replicate]; exact Nat.mul_le_mul_right _ hge, fun i2 e2' he => ⟨(hr.2.2 i2 e2' he).1, fun j a ha => ?_⟩⟩
        obtain ⟨u, g1, g2, g3⟩ := (hr.2.2 i2 e2' he).2 j a ha
        refine ⟨u, ?_, g2, g3⟩
        have hlt := (List.getElem?_eq_some_iff.1 g1).1
        rw [hcs, Array.getElem?_append_left (by simpa using hlt), ← Array.getElem?_toList]
        exact g1
      · show z.h.push _ = _; rw [hh]; rfl
    · cases h
  · cases h

theorem run_append_room_any {t ty e : TypeId} {i : TypeInfo} (ht : C.P.underlying t = some (.slice e)) (hi : C.P.info? e = some i) (g sLen sCap : Nat) (cur : Array Value) (T : TypeId) (hg : w.heap[g]? = some (.cells cur T (0, 0)))
    (a : Addr) (m c : Nat) (news : List Value) (hl : news.length = m * i.size) (hnews : ∀ (j : Nat) u, news[j]? = some u → w.cell? (a.add j) = some u) (h1 : ∀ u ∈ news, u.oneCell' = true) (hroom : sLen + m ≤ sCap) (hfit : sLen * i.size + news.length ≤ cur.size) :
    (Builtin.append_ #[t, t] ty #[.slice (some ⟨g, 0, none⟩) sLen sCap, .slice (some a) m c]).run C.P w =
      .ok (.slice (some ⟨g, 0, none⟩) (sLen + m) sCap) (w.setRow g (cur.toList.take (sLen * i.size) ++ news ++ cur.toList.drop (sLen * i.size + news.length)).toArray) := by
  have hf := run_firstCells_some (P := C.P) w i.size m a m c news hl hnews
  have hst := run_storeCells_at C.P g (sLen * i.size) T news 0 cur w hg (by simpa using hfit) h1
  simp only [Nat.add_zero] at hst
  simp [Builtin.append_, run_underlying ht, sizeOf, typeInfo, hi, Builtin.lenOf, hroom, hf, add_none, hst]

theorem appendOwn_sound (hG : Good C N z) (hh : z.h = w.heap) {t e : TypeId} (ht : C.P.underlying t = some (.slice e)) {i : TypeInfo} (hi : C.P.info? e = some i) {z0 : AV} (hz0 : zeroT C.P e = some z0) (hzl : z0.cells.length = i.size) (hzs : z0.solids = true) (hsz0 : i.size ≠ 0) (ty : TypeId) {s x v : AV} {sv xv : Value} (hs : R C.P N z s sv) (hx : R C.P N z x xv)
    {m' : Mem} {id off len : Nat} (hse : s = .ref id off len) {own : Bool} (h : appendAt z.m own s x e i.size i.bytes = some (v, m')) :
    OpRes C N z m' v w ((do pure (.value (← Builtin.append_ #[t, t] ty #[sv, xv])) : Sem Next).run C.P w) := by
  subst hse
  unfold appendAt at h
  split at h
  · cases h
  · rename_i ys hys
    split at h
    · cases h
    · rename_i hd
      have hd : hdSz ys i.size = true := by cases hq : hdSz ys i.size <;> simp_all
      simp only at h
      split at h
      · rename_i es n hb
        split at h
        · cases h
        · rename_i hn
          have hn : n = i.size := by omega
          subst hn
          obtain ⟨hid, _, hs⟩ := R_ref.1 hs
          obtain ⟨cap, rfl, h1, h2, h3⟩ := hs es _ hb
          obtain ⟨a', c, L', rfl, hc1, hc2, hr', hL'⟩ := elems_sound hG hx hys hd
          obtain ⟨cs, T, g1, g2, g3⟩ := hG.live id es _ hb
          have hcsz : csize z.h (z.ρ id) = cs.size := by unfold csize; rw [g1]
          rw [hcsz] at h3
          split at h
          · rename_i hc
            obtain ⟨rfl, hle⟩ := hc
            simp only [Option.some.injEq, Prod.mk.injEq] at h
            obtain ⟨rfl, rfl⟩ := h
            simp only [Nat.zero_mul, Nat.zero_add] at *
            have hcap : len + ys.length ≤ cap := by
              have : es.length * i.size ≤ cap * i.size := by rw [h3]; exact g2
              have := Nat.le_of_mul_le_mul_right this (by omega)
              omega
            have g1w : w.heap[z.ρ id]? = some (.cells cs T (0, 0)) := by rw [← hh]; exact g1
            have hfit : len * i.size + L'.length ≤ cs.size := by
              rw [hr'.1, ← Nat.add_mul]; exact Nat.le_trans (Nat.mul_le_mul_right _ hle) g2
            obtain ⟨cs', hcs'⟩ : ∃ cs', cs' = (cs.toList.take (len * i.size) ++ L' ++ cs.toList.drop (len * i.size + L'.length)).toArray := ⟨_, rfl⟩
            have hsz2 : cs'.size = cs.size := by rw [hcs']; simpa using splice_length cs.toList L' (len * i.size) (by simpa using hfit)
            have hget : ∀ q, cs'[q]? = if q < len * i.size then cs[q]? else if q < len * i.size + L'.length then L'[q - len * i.size]? else cs[q]? := fun q => by
              rw [hcs']
              have := splice_get cs.toList L' (len * i.size) q (by simpa using hfit)
              simpa using this
            have hrep := replace_cells (C := C) (N := N) (z := z) (es := es) (ys := ys) (p := len) (cs := cs) (cs' := cs') hle g3 hr' hget
            have hrun : (Builtin.append_ #[t, t] ty #[.slice (some ⟨z.ρ id, 0, none⟩) len cap, .slice a' ys.length c]).run C.P w = .ok (.slice (some ⟨z.ρ id, 0, none⟩) (len + ys.length) cap) (w.setRow (z.ρ id) cs') := by
              by_cases hy : ys = []
              · subst hy
                have hL0 : L' = [] := List.eq_nil_of_length_eq_zero (by rw [hr'.1]; simp)
                have hsame : w.setRow (z.ρ id) cs' = w := by
                  have : cs' = cs := by rw [hcs', hL0]; simp
                  rw [this]; exact setRow_self w (z.ρ id) cs T (0, 0) g1w
                rw [hsame]
                simpa using run_append_zero (C := C) (w := w) t ty e ht hi (some ⟨z.ρ id, 0, none⟩) len cap h1 a' c
              · obtain ⟨b, o, rfl, hcell⟩ := hL' hy
                rw [hcs']
                exact run_append_room_any ht hi (z.ρ id) len cap cs T g1w ⟨b, o, none⟩ ys.length c L' hr'.1 (cell_of_rows rfl hh hcell) hr'.2.1 hcap hfit
            refine ⟨_, w.setRow (z.ρ id) cs', z.putB id (.live (es.take len ++ ys ++ es.drop (len + ys.length)) i.size) (.cells cs' T (0, 0)), .inl (by simp [hrun]; rfl), ?_, putB_good hG hb g1 hsz2 (.inr ⟨_, rfl, ?_, hrep⟩), putB_tr hG hb g1 hsz2 (.inr ⟨_, rfl⟩), ?_, rfl, ⟨rfl, rfl, rfl⟩⟩
            · refine R_ref.2 ⟨by simpa [Z.putB] using hid, ⟨_, _, _, rfl⟩, fun es2 sz2 hb2 => ?_⟩
              rcases get_set hb2 with ⟨_, hk, _⟩ | ⟨hne, _⟩
              · cases hk
                refine ⟨cap, by simp [Z.putB], hcap, by omega, ?_⟩
                have : csize (z.putB id (.live (es.take len ++ ys ++ es.drop (len + ys.length)) i.size) (.cells cs' T (0, 0))).h (z.ρ id) = cs'.size := by unfold csize; rw [putB_same (hG.rho_lt hb (by simp))]
                rw [Nat.zero_add]
                exact h3.trans (hsz2.symm.trans this.symm)
              · exact absurd rfl hne
            · have : (es.take len ++ ys ++ es.drop (len + ys.length)).length = es.length := by simp; omega
              rw [this, hsz2]; exact g2
            · rw [setRow_heap_eq g1w, ← hh]; rfl
          · rename_i hnot
            split at h
            · rename_i hc
              obtain ⟨⟨rfl, rfl⟩, hlim⟩ := hc
              simp only [Option.some.injEq, Prod.mk.injEq] at h
              obtain ⟨rfl, rfl⟩ := h
              simp only [Nat.zero_mul, Nat.zero_add] at *
              have hne : ys ≠ [] := fun h => hnot ⟨trivial, by rw [h]; simp⟩
              have g1w : w.heap[z.ρ id]? = some (.cells cs T (0, 0)) := by rw [← hh]; exact g1
              obtain ⟨hr, hL⟩ := rows_at (C := C) (N := N) (z := z) (b := z.ρ id) (o := 0) (sz := i.size) es fun k e he => ⟨(g3 k e he).1, fun j a ha => by
                obtain ⟨u, q1, q2, q3⟩ := (g3 k e he).2 j a ha
                exact ⟨u, by unfold cellAt; rw [g1, Nat.zero_add]; exact q1, q2, q3⟩⟩
              by_cases hroom : es.length + ys.length ≤ cap
              · obtain ⟨b', o', rfl, h'⟩ := hL' hne
                have hfit : es.length * i.size + L'.length ≤ cs.size := by
                  rw [hr'.1, ← Nat.add_mul, ← h3]; exact Nat.mul_le_mul_right _ hroom
                obtain ⟨cs', hcs'⟩ : ∃ cs', cs' = (cs.toList.take (es.length * i.size) ++ L' ++ cs.toList.drop (es.length * i.size + L'.length)).toArray := ⟨_, rfl⟩
                have hrun := run_append_room_any ht hi (ty := ty) (z.ρ id) es.length cap cs T g1w ⟨b', o', none⟩ ys.length c L' hr'.1 (cell_of_rows rfl hh h') hr'.2.1 hroom hfit
                rw [← hcs'] at hrun
                have hsz2 : cs'.size = cs.size := by rw [hcs']; simpa using splice_length cs.toList L' (es.length * i.size) (by simpa using hfit)
                have hget : ∀ q, cs'[q]? = if q < es.length * i.size then cs[q]? else if q < es.length * i.size + L'.length then L'[q - es.length * i.size]? else cs[q]? := fun q => by
                  rw [hcs']
                  have := splice_get cs.toList L' (es.length * i.size) q (by simpa using hfit)
                  simpa using this
                have hrep : ∀ (k : Nat) e, (es ++ ys)[k]? = some e → e.cells.length = i.size ∧ ∀ (j : Nat) a, e.cells[j]? = some a → ∃ u, cs'[k * i.size + j]? = some u ∧ u.oneCell' = true ∧ R C.P N z a u := by
                  intro k e he
                  have happ := hr.app hr'
                  refine ⟨(happ.2.2 k e he).1, fun j a ha => ?_⟩
                  obtain ⟨u, q1, q2, q3⟩ := (happ.2.2 k e he).2 j a ha
                  refine ⟨u, ?_, q2, q3⟩
                  rw [hget]
                  by_cases hk : k * i.size + j < es.length * i.size
                  · rw [if_pos hk]
                    rw [List.getElem?_append_left (by rw [hr.1]; exact hk)] at q1
                    have := hL _ u q1
                    unfold cellAt at this; rw [g1, Nat.zero_add] at this; exact this
                  · rw [if_neg hk]
                    rw [List.getElem?_append_right (by rw [hr.1]; omega), hr.1] at q1
                    rw [if_pos (by have := (List.getElem?_eq_some_iff.1 q1).1; omega)]
                    exact q1
                have hlen2 : (es ++ ys).length * i.size ≤ cs'.size := by
                  rw [List.length_append, hsz2, ← h3]; exact Nat.mul_le_mul_right _ hroom
                have hG1 := putB_good (N := N) hG hb g1 hsz2 (k := .live (es ++ ys) i.size) (.inr ⟨_, rfl, hlen2, hrep⟩)
                have hT1 := putB_tr (N := N) hG hb g1 hsz2 (k := .live (es ++ ys) i.size) (.inr ⟨_, rfl⟩)
                have hb1 : (z.putB id (.live (es ++ ys) i.size) (.cells cs' T (0, 0))).m.blks[id]? = some (.live (es ++ ys) i.size) := List.getElem?_set_self hid
                have hcz : csize (z.putB id (.live (es ++ ys) i.size) (.cells cs' T (0, 0))).h (z.ρ id) = cs'.size := by unfold csize; rw [putB_same (hG.rho_lt hb (by simp))]
                refine ⟨_, w.setRow (z.ρ id) cs', (z.putB id (.live (es ++ ys) i.size) (.cells cs' T (0, 0))).renB id (.live (es ++ ys) i.size), .inl (by simp [hrun]; rfl), ?_, renB_good hG1 hb1, Tr.trans hT1 (renB_tr hb1), ?_, ?_, ⟨rfl, rfl, rfl⟩⟩
                · refine R_ref.2 ⟨by simp [Z.putB, Z.renB], ⟨_, _, _, rfl⟩, fun es2 sz2 hb2 => ?_⟩
                  rcases renB_get hb2 with ⟨hlt, _⟩ | ⟨_, hk, hρ⟩
                  · simp only [Z.putB, List.length_set] at hlt; omega
                  · cases hk
                    rw [hρ]
                    refine ⟨cap, by simp [Z.putB], hroom, by omega, ?_⟩
                    rw [Nat.zero_add]
                    exact h3.trans (hsz2.symm.trans hcz.symm)
                · rw [setRow_heap_eq g1w, ← hh]; rfl
                · simp [Z.renB, Z.putB]
              · obtain ⟨x0, hx0, hrx0⟩ : ∃ x0, i.zero = some x0 ∧ R C.P N z z0 x0 := by
                  simp only [zeroT, Option.bind_eq_some_iff] at hz0
                  obtain ⟨i2, hi2, x0, h1, h2⟩ := hz0
                  rw [hi] at hi2; cases hi2
                  exact ⟨x0, h1, trVal_sound h2⟩
                have hxs : x0.cells.size = i.size := by have := (cells_sound hrx0 hzs).1; simp at this; omega
                obtain ⟨cap', cs2, e1, e2, e3, e4, e5⟩ := grow_run (z := z) (N := N) (a := some ⟨z.ρ id, 0, none⟩) (a' := a') (c := c) (cap := cap) hh ht hi hx0 ty hr hr' hne (by omega) (fun h => by cases h) (fun _ => ⟨_, _, rfl, hL⟩) hL' hlim
                have hsz : cs2.size = cap' * i.size := by rw [e4, hxs, ← Nat.add_mul]; congr 1; omega
                have hsame : (z.putB id .dead (.cells cs T (0, 0))).h = z.h := by
                  simp only [Z.putB]
                  apply Array.ext_getElem?
                  intro q
                  by_cases hq : q = z.ρ id
                  · subst hq; rw [Array.getElem?_setIfInBounds_self_of_lt (hG.rho_lt hb (by simp)), g1]
                  · rw [Array.getElem?_setIfInBounds_ne (Ne.symm hq)]
                have hG1 := putB_good (N := N) hG hb g1 (cs' := cs) rfl (k := .dead) (.inl rfl)
                have hT1 := putB_tr (N := N) hG hb g1 (cs' := cs) rfl (k := .dead) (.inl rfl)
                have hlenb : (z.putB id .dead (.cells cs T (0, 0))).m.blks.length = z.m.blks.length := by simp [Z.putB]
                have happ := (hr.app hr').step hT1
                refine ⟨_, w.drew.alloc (.cells cs2 e), (z.putB id .dead (.cells cs T (0, 0))).grow (.cells cs2 e (0, 0)) (.live (es ++ ys) i.size), .inl (by simp [e1]; rfl), ?_, grow_good hG1 (fun es' sz' hk => ?_) (fun _ _ _ _ _ _ hk => by cases hk), Tr.trans hT1 (grow_tr hG1 _ _), ?_, ?_, ⟨rfl, rfl, rfl⟩⟩
                · refine R_ref.2 ⟨by simp [Z.grow, hlenb], ⟨_, _, _, rfl⟩, fun es2 sz2 hb2 => ?_⟩
                  rcases get_snoc hb2 with ⟨_, hi2⟩ | ⟨_, hk⟩
                  · omega
                  · cases hk
                    have hρ : ((z.putB id .dead (.cells cs T (0, 0))).grow (.cells cs2 e (0, 0)) (.live (es ++ ys) i.size)).ρ z.m.blks.length = w.heap.size := by
                      simp only [Z.grow, hlenb, if_true, hsame, hh]
                    rw [hρ]
                    refine ⟨cap', by simp, e2, by omega, ?_⟩
                    have : ((z.putB id .dead (.cells cs T (0, 0))).grow (.cells cs2 e (0, 0)) (.live (es ++ ys) i.size)).h[w.heap.size]? = some (.cells cs2 e (0, 0)) := by
                      show ((z.putB id .dead (.cells cs T (0, 0))).h.push _)[w.heap.size]? = _
                      rw [hsame, hh]; simp
                    unfold csize; rw [this]; simp [hsz]
                · cases hk
                  refine ⟨cs2, e, rfl, by rw [hsz, List.length_append]; exact Nat.mul_le_mul_right _ e2, fun i2 e2' he => ⟨(happ.2.2 i2 e2' he).1, fun j a ha => ?_⟩⟩
                  obtain ⟨u, q1, q2, q3⟩ := (happ.2.2 i2 e2' he).2 j a ha
                  exact ⟨u, e5 _ _ q1, q2, q3⟩
                · show (z.putB id .dead (.cells cs T (0, 0))).h.push _ = _; rw [hsame, hh]; rfl
                · simp [Z.grow, Z.putB]
            · cases h
      · cases h
end
end Go.Ab
end

section
/-
  Equal values.
-/
namespace Go.Ab
theorem eqs_append : ∀ (t u : List EK) (a b c d : List AV), a.length = t.length → b.length = t.length → eqs (t ++ u) (a ++ c) (b ++ d) = (eqs t a b).bind fun r => (eqs u c d).map (r && ·)
  | [], u, a, b, c, d, ha, hb => by
    obtain rfl := List.eq_nil_of_length_eq_zero ha
    obtain rfl := List.eq_nil_of_length_eq_zero hb
    simp [eqs]
  | k :: t, u, [], _, c, d, ha, _ => by simp at ha
  | k :: t, u, _ :: _, [], c, d, _, hb => by simp at hb
  | k :: t, u, x :: a, y :: b, c, d, ha, hb => by
    simp only [List.cons_append, eqs, eqs_append t u a b c d (by simpa using ha) (by simpa using hb)]
    cases eq1 k x y with
    | none => rfl
    | some p =>
      cases eqs t a b with
      | none => rfl
      | some q =>
        cases eqs u c d with
        | none => rfl
        | some s => simp [Bool.and_assoc]
theorem eqs_len : ∀ {t : List EK} {a b : List AV} {r : Bool}, eqs t a b = some r → a.length = t.length ∧ b.length = t.length
  | [], [], [], _, _ => ⟨rfl, rfl⟩
  | [], [], _ :: _, _, h => by simp [eqs] at h
  | [], _ :: _, _, _, h => by simp [eqs] at h
  | _ :: _, [], _, _, h => by simp [eqs] at h
  | _ :: _, _ :: _, [], _, h => by simp [eqs] at h
  | k :: t, x :: a, y :: b, r, h => by
    simp only [eqs, Option.bind_eq_some_iff, Option.map_eq_some_iff] at h
    obtain ⟨p, _, q, h1, _⟩ := h
    obtain ⟨h2, h3⟩ := eqs_len h1
    simp [h2, h3]

section
variable {C : Cx} {N : Nat → Nat → Prop} {z : Z} {w : World}
/-- A type's value out of its cells. -/
def mkVal (P : Program) (t : TypeId) (xs : List Value) : Value := if isStruct P t then .agg xs.toArray else xs.headD undef

theorem part_mk {t : TypeId} {n : Nat} (hn : sizeT C.P t = some n) (hs : isStruct C.P t = true ∨ (n = 1 ∧ (isAgg t).run C.P w = .ok false w)) (xs : List Value) (p : Nat) (hp : p + n ≤ xs.length) :
    (part t xs.toArray p).run C.P w = .ok (mkVal C.P t ((xs.drop p).take n)) w := by
  simp only [sizeT, Option.map_eq_some_iff] at hn
  obtain ⟨i, hi, rfl⟩ := hn
  rcases hs with hs | ⟨h1, h2⟩
  · unfold isStruct at hs
    split at hs
    · rename_i fs hu
      have hst : isStruct C.P t = true := by simp [isStruct, hu]
      simp only [mkVal, hst, if_true]
      simp only [part, isAgg, Sem.run_bind, run_underlying hu, Result.andThen_ok, Sem.run_pure, if_true, sizeOf, typeInfo, run_program, hi]
      congr 2
      apply Array.ext'
      simp [List.extract_eq_take_drop]
    · rename_i q e hu
      have hst : isStruct C.P t = true := by simp [isStruct, hu]
      simp only [mkVal, hst, if_true]
      simp only [part, isAgg, Sem.run_bind, run_underlying hu, Result.andThen_ok, Sem.run_pure, if_true, sizeOf, typeInfo, run_program, hi]
      congr 2
      apply Array.ext'
      simp [List.extract_eq_take_drop]
    · cases hs
  · have hst : isStruct C.P t = false := by
      unfold isStruct
      split
      · rename_i fs hu
        simp [isAgg, run_underlying hu] at h2
      · rename_i q e hu
        simp [isAgg, run_underlying hu] at h2
      · rfl
    have hlt : p < xs.length := by omega
    simp only [mkVal, hst, Bool.false_eq_true, if_false, h1]
    rw [show (xs.drop p).take 1 = [xs[p]] by rw [List.drop_eq_getElem_cons hlt]; rfl]
    simp [part, h2, hlt]

theorem flatEq_size {P : Program} : ∀ {d : Nat} {t : TypeId} {l : List EK}, flatEq P d t = some l → sizeT P t = some l.length
  | 0, _, _, h => by simp [flatEq] at h
  | d + 1, t, l, h => by
    simp only [flatEq] at h
    split at h
    · split at h
      · cases h; assumption
      · cases h
    · split at h
      · cases h; assumption
      · cases h
    · split at h
      · cases h; assumption
      · cases h
    · split at h
      · cases h
      · simp only [Option.bind_eq_some_iff] at h
        obtain ⟨l', _, h⟩ := h
        split at h
        · cases h; assumption
        · cases h
    · split at h
      · split at h
        · cases h; rw [List.length_replicate]; assumption
        · cases h
      · cases h
    · cases h
theorem flatEq_agg {d : Nat} {t : TypeId} {l : List EK} (h : flatEq C.P d t = some l) : isStruct C.P t = true ∨ (l.length = 1 ∧ (isAgg t).run C.P w = .ok false w) := by
  cases d with
  | zero => simp [flatEq] at h
  | succ d =>
    simp only [flatEq] at h
    split at h
    · rename_i hu
      split at h
      · cases h; exact .inr ⟨rfl, by simp [isAgg, run_underlying hu]⟩
      · cases h
    · rename_i hu
      split at h
      · cases h; exact .inr ⟨rfl, by simp [isAgg, run_underlying hu]⟩
      · cases h
    · rename_i hu
      split at h
      · cases h; exact .inr ⟨rfl, by simp [isAgg, run_underlying hu]⟩
      · cases h
    · rename_i fs hu
      exact .inl (by simp [isStruct, hu])
    · rename_i q e hu
      exact .inl (by simp [isStruct, hu])
    · cases h

theorem eqIn_sound : ∀ (d : Nat) {t : TypeId} {l : List EK}, flatEq C.P d t = some l → ∀ (D : Nat) {as bs : List AV} {xs ys : List Value} {r : Bool}, RL (R C.P N z) as xs → RL (R C.P N z) bs ys → eqs l as bs = some r →
    (Op.equalIn (D + d) t (mkVal C.P t xs) (mkVal C.P t ys)).run C.P w = .ok r w
  | 0, _, _, h, _, _, _, _, _, _, _, _, _ => by simp [flatEq] at h
  | d + 1, t, l, hfl, D, as, bs, xs, ys, r, hx, hy, h => by
    rw [show D + (d + 1) = D + d + 1 from rfl]
    have one : ∀ {k : EK}, l = [k] → ∃ a b x y, as = [a] ∧ bs = [b] ∧ xs = [x] ∧ ys = [y] ∧ R C.P N z a x ∧ R C.P N z b y ∧ eq1 k a b = some r := by
      intro k hl
      subst hl
      obtain ⟨h1, h2⟩ := eqs_len h
      obtain ⟨a, rfl⟩ := List.length_eq_one_iff.1 h1
      obtain ⟨b, rfl⟩ := List.length_eq_one_iff.1 h2
      obtain ⟨x, rfl⟩ := List.length_eq_one_iff.1 (hx.1.symm.trans h1)
      obtain ⟨y, rfl⟩ := List.length_eq_one_iff.1 (hy.1.symm.trans h2)
      refine ⟨a, b, x, y, rfl, rfl, rfl, rfl, hx.2 0 a x rfl rfl, hy.2 0 b y rfl rfl, ?_⟩
      simp only [eqs, Option.bind_eq_some_iff, Option.map_some, Option.some.injEq] at h
      obtain ⟨q, h3, h4⟩ := h
      rw [h3]; simpa using h4
    have hfl' := hfl
    simp only [flatEq] at hfl
    split at hfl
    · rename_i hu
      split at hfl
      · cases hfl
        obtain ⟨a, b, x, y, rfl, rfl, rfl, rfl, ha, hb, he⟩ := one rfl
        cases a <;> cases b <;> simp [eq1] at he
        subst he
        rw [R_of_bool ha, R_of_bool hb]
        simpa [mkVal, isStruct, hu] using run_equalIn_bool' (P := C.P) w (D + d) t _ _ hu
      · cases hfl
    · rename_i q hu
      split at hfl
      · cases hfl
        obtain ⟨a, b, x, y, rfl, rfl, rfl, rfl, ha, hb, he⟩ := one rfl
        cases a <;> cases b <;> simp [eq1] at he
        obtain ⟨rfl, rfl⟩ := he
        rw [R_of_int ha, R_of_int hb]
        simpa [mkVal, isStruct, hu] using run_equalIn_int (P := C.P) w (D + d) t _ q _ _ hu
      · cases hfl
    · rename_i hu
      split at hfl
      · cases hfl
        obtain ⟨a, b, x, y, rfl, rfl, rfl, rfl, ha, hb, he⟩ := one rfl
        cases a <;> cases b <;> simp [eq1] at he
        subst he
        rw [R_of_str ha, R_of_str hb]
        simpa [mkVal, isStruct, hu] using run_equalIn_string (P := C.P) w (D + d) t _ _ hu
      · cases hfl
    · rename_i fs hu
      split at hfl
      · cases hfl
      · rename_i hstood
        simp only [Option.bind_eq_some_iff] at hfl
        obtain ⟨l', hfold, hfl⟩ := hfl
        split at hfl
        · rename_i hsz
          cases hfl
          have hst : isStruct C.P t = true := by simp [isStruct, hu]
          have hfo : C.P.fieldsOf t = fs := by simp [Program.fieldsOf, hu]
          have key : ∀ (fl : List Field) (p : Nat) (l2 : List EK) (r2 : Bool),
              fl.foldr (fun f r => fun (off : Nat) => if f.name ≠ "_" ∧ f.offset = off then (flatEq C.P d f.type).bind fun a => (r (off + a.length)).map (a ++ ·) else none) (fun _ => some []) p = some l2 →
              p ≤ as.length → p ≤ bs.length → eqs l2 (as.drop p) (bs.drop p) = some r2 → (Op.eqFields (D + d) xs.toArray ys.toArray fl).run C.P w = .ok r2 w := by
            intro fl
            induction fl with
            | nil =>
              intro p l2 r2 hf _ _ he
              simp only [List.foldr_nil, Option.some.injEq] at hf
              subst hf
              have hlen := eqs_len he
              rw [List.eq_nil_of_length_eq_zero hlen.1, List.eq_nil_of_length_eq_zero hlen.2] at he
              simp only [eqs, Option.some.injEq] at he
              subst he
              simp [Op.eqFields]
            | cons f fl ih =>
              intro p l2 r2 hf hpa hpb he
              simp only [List.foldr_cons] at hf
              split at hf
              · rename_i hc
                simp only [Option.bind_eq_some_iff, Option.map_eq_some_iff] at hf
                obtain ⟨l3, hl3, l4, hl4, rfl⟩ := hf
                obtain ⟨e1, e2⟩ := eqs_len he
                simp only [List.length_append, List.length_drop] at e1 e2
                have hsa : as.drop p = (as.drop p).take l3.length ++ as.drop (p + l3.length) := by rw [← List.drop_drop, List.take_append_drop]
                have hsb : bs.drop p = (bs.drop p).take l3.length ++ bs.drop (p + l3.length) := by rw [← List.drop_drop, List.take_append_drop]
                rw [hsa, hsb, eqs_append l3 l4 _ _ _ _ (by simp; omega) (by simp; omega)] at he
                simp only [Option.bind_eq_some_iff, Option.map_eq_some_iff] at he
                obtain ⟨q1, hq1, q2, hq2, rfl⟩ := he
                have sub : ∀ {as : List AV} {xs : List Value}, RL (R C.P N z) as xs → RL (R C.P N z) ((as.drop p).take l3.length) ((xs.drop p).take l3.length) := fun {as xs} h =>
                  ⟨by simp [h.1], fun i a u h1 h2 => by
                    rw [List.getElem?_take] at h1 h2
                    split at h1
                    · rename_i hi
                      rw [if_pos hi] at h2
                      rw [List.getElem?_drop] at h1 h2
                      exact h.2 _ a u h1 h2
                    · cases h1⟩
                have hin := eqIn_sound d hl3 D (sub hx) (sub hy) hq1
                have hag := flatEq_agg (w := w) hl3
                have hsz3 := flatEq_size hl3
                have hpx := part_mk (w := w) hsz3 hag xs p (by rw [← hx.1]; omega)
                have hpy := part_mk (w := w) hsz3 hag ys p (by rw [← hy.1]; omega)
                have hrest := ih (p + l3.length) l4 q2 hl4 (by omega) (by omega) hq2
                simp only [Op.eqFields, hc.1, ne_eq, not_false_eq_true, if_true, hc.2, Sem.run_bind, hpx, hpy, hin, Result.andThen_ok, Sem.run_ite]
                cases q1
                · simp
                · simpa using hrest
              · cases hf
          have := key fs.toList 0 l r hfold (Nat.zero_le _) (Nat.zero_le _) (by simpa using h)
          simp only [mkVal, hst, if_true]
          rw [run_equalIn_agg w (D + d) t xs.toArray ys.toArray (by rw [hfo]; exact hu) (by simpa using hstood), hfo]
          exact this
        · cases hfl
    · rename_i n e hu
      split at hfl
      · rename_i k hk
        split at hfl
        · rename_i hsz
          cases hfl
          have hst : isStruct C.P t = true := by simp [isStruct, hu]
          have hse := flatEq_size hk
          have hag := flatEq_agg (w := w) hk
          obtain ⟨e1, e2⟩ := eqs_len h
          rw [List.length_replicate] at e1 e2
          simp only [mkVal, hst, if_true]
          obtain ⟨ie, hie, hie1⟩ : ∃ i, C.P.info? e = some i ∧ i.size = 1 := by
            simp only [sizeT, Option.map_eq_some_iff] at hse
            exact hse
          simp only [Op.equalIn, Sem.run_bind, run_underlying hu, sizeOf, typeInfo, run_program, hie, Sem.run_pure, Result.andThen_ok, hie1]
          simp only [Std.Legacy.Range.forIn_eq_forIn_range', Std.Legacy.Range.size, Nat.sub_zero, Nat.add_one_sub_one, Nat.div_one]
          have one : ∀ {as : List AV} {xs : List Value} {p : Nat} (_ : RL (R C.P N z) as xs), RL (R C.P N z) ((as.drop p).take 1) ((xs.drop p).take 1) := fun {as xs p} h =>
            ⟨by simp [h.1], fun i a u h1 h2 => by
              rw [List.getElem?_take] at h1 h2
              split at h1
              · rename_i hi
                rw [if_pos hi] at h2
                rw [List.getElem?_drop] at h1 h2
                exact h.2 _ a u h1 h2
              · cases h1⟩
          have key : ∀ (m p : Nat) (r2 : Bool), p + m = n → eqs (List.replicate m k) (as.drop p) (bs.drop p) = some r2 →
              ∃ q : Option Bool, (forIn (List.range' p m) ((none : Option Bool), ()) (fun i __s => do
                  if (!(← Op.equalIn (D + d) e (← part e xs.toArray (i * 1)) (← part e ys.toArray (i * 1)))) = true then pure (ForInStep.done (some false, ())) else pure (ForInStep.yield (none, ())) : Nat → Option Bool × Unit → Sem (ForInStep (Option Bool × Unit)))).run C.P w = .ok (q, ()) w ∧ q.getD true = r2 := by
            intro m
            induction m with
            | zero =>
              intro p r2 hp he
              have ha : as.drop p = [] := List.drop_eq_nil_of_le (by omega)
              have hb : bs.drop p = [] := List.drop_eq_nil_of_le (by omega)
              rw [ha, hb] at he
              simp only [List.replicate_zero, eqs, Option.some.injEq] at he
              subst he
              exact ⟨none, by simp, rfl⟩
            | succ m ih =>
              intro p r2 hp he
              have ha : as.drop p = (as.drop p).take 1 ++ as.drop (p + 1) := by rw [← List.drop_drop, List.take_append_drop]
              have hb : bs.drop p = (bs.drop p).take 1 ++ bs.drop (p + 1) := by rw [← List.drop_drop, List.take_append_drop]
              rw [ha, hb, show List.replicate (m + 1) k = [k] ++ List.replicate m k from rfl, eqs_append [k] _ _ _ _ _ (by simp; omega) (by simp; omega)] at he
              simp only [Option.bind_eq_some_iff, Option.map_eq_some_iff] at he
              obtain ⟨q1, hq1, q2, hq2, rfl⟩ := he
              have hin := eqIn_sound d hk D (one (p := p) hx) (one (p := p) hy) hq1
              have hpx := part_mk (w := w) hse hag xs p (by rw [← hx.1]; show p + 1 ≤ _; omega)
              have hpy := part_mk (w := w) hse hag ys p (by rw [← hy.1]; show p + 1 ≤ _; omega)
              have hrest := ih (p + 1) q2 (by omega) hq2
              simp only [List.range'_succ, List.forIn_cons, Sem.run_bind, Nat.mul_one, hpx, hpy, List.length_singleton, hin, Result.andThen_ok, Sem.run_ite]
              cases q1
              · exact ⟨some false, by simp, rfl⟩
              · obtain ⟨q, h8, h9⟩ := hrest
                exact ⟨q, by simpa using h8, by simpa using h9⟩
          obtain ⟨q, h8, h9⟩ := key n 0 r (by omega) (by simpa using h)
          rw [h8]
          cases q <;> (simp at h9; subst h9; simp)
        · cases hfl
      · cases hfl
    · cases hfl

theorem eqv_sound {t : TypeId} {ts : List EK} (hf : flatEq C.P 6 t = some ts) (hg : C.P.eqGuardType C.P.depth t = false) {a b : AV} {x y : Value} (ha : R C.P N z a x) (hb : R C.P N z b y) {r : Bool} (h : eqAV (isStruct C.P t) ts a b = some r) (ox oy : Operand) (op : BinOp) :
    (Op.equal t x y).run C.P w = .ok r w ∧ (eqGuard op t ox oy x y).run C.P w = .ok () w := by
  unfold eqAV at h
  split at h
  · rename_i hst
    split at h
    · obtain ⟨us, rfl, hx⟩ := R_agg.1 ha
      obtain ⟨vs, rfl, hy⟩ := R_agg.1 hb
      have := eqIn_sound (w := w) 6 hf 9994 hx hy h
      simp only [mkVal, hst, if_true, Array.toArray_toList] at this
      exact ⟨this, run_eqGuard_agg w op t ox oy us vs hg⟩
    · cases h
  · rename_i hst
    have := eqIn_sound (w := w) 6 hf 9994 (as := [a]) (bs := [b]) (xs := [x]) (ys := [y]) ⟨rfl, fun i a' u h1 h2 => by
      cases i with
      | zero => simp at h1 h2; subst h1; subst h2; exact ha
      | succ i => simp at h1⟩ ⟨rfl, fun i a' u h1 h2 => by
      cases i with
      | zero => simp at h1 h2; subst h1; subst h2; exact hb
      | succ i => simp at h1⟩ h
    simp only [mkVal, hst, Bool.false_eq_true, if_false, List.headD_cons] at this
    refine ⟨this, ?_⟩
    obtain ⟨e1, e2⟩ := eqs_len h
    obtain ⟨k, rfl⟩ := List.length_eq_one_iff.1 e1.symm
    simp only [eqs, Option.bind_eq_some_iff] at h
    obtain ⟨q, h, _⟩ := h
    cases k <;> cases a <;> cases b <;> simp [eq1] at h
    · rw [R_of_bool ha, R_of_bool hb]; exact run_eqGuard_bool _ _ _ _ _ _
    · rw [R_of_int ha, R_of_int hb]; exact run_eqGuard_int _ _ _ _ _ _ _ _
    · rw [R_of_str ha, R_of_str hb]; exact run_eqGuard_str _ _ _ _ _ _
end
end Go.Ab
end

section
/-
  Maps: made, read, written.
-/
namespace Go.Ab
open Go.MapKept
def EkD : EK → TypeDesc → Prop
  | .i, .int _ | .s, .string | .b, .bool | .n _, .struct _ | .n _, .array _ _ => True
  | _, _ => False
/-- What is known of the keys' type. -/
def KeyT (P : Program) (k : TypeId) : EK → Prop
  | .n m => flatEq P 6 k = some (List.replicate m .i) ∧ P.eqGuardType P.depth k = false ∧ ((∃ fs, P.underlying k = some (.struct fs) ∧ fs.toList.all (intF P) = true) ∨ ∃ n u q, P.underlying k = some (.array n u) ∧ P.underlying u = some (.int q))
  | _ => True
theorem all_ei : ∀ {ts : List EK}, ts.all isEi = true → ts = List.replicate ts.length .i
  | [], _ => rfl
  | t :: ts, h => by
    simp only [List.all_cons, Bool.and_eq_true] at h
    cases t <;> first | (exfalso; cases h.1; done) | (have e := all_ei h.2; rw [List.length_cons, List.replicate_succ, ← e])
theorem mapT_eq {P : Program} {t : TypeId} {ek : EK} {e : TypeId} (h : mapT P t = some (ek, e)) : ∃ k d, P.underlying t = some (.map k e) ∧ P.underlying k = some d ∧ EkD ek d ∧ KeyT P k ek := by
  unfold mapT at h
  split at h
  · rename_i k e' hu
    split at h
    · rename_i q hk; cases h; exact ⟨k, _, hu, hk, trivial, trivial⟩
    · rename_i hk; cases h; exact ⟨k, _, hu, hk, trivial, trivial⟩
    · rename_i hk; cases h; exact ⟨k, _, hu, hk, trivial, trivial⟩
    · rename_i fs hk
      split at h
      · rename_i ts hts
        split at h
        · rename_i hc
          cases h
          exact ⟨k, _, hu, hk, trivial, by rw [hts]; exact congrArg some (all_ei hc.1.1), hc.1.2, .inl ⟨fs, hk, hc.2⟩⟩
        · cases h
      · cases h
    · rename_i n u hk
      split at h
      · rename_i ts q hts hq
        split at h
        · rename_i hc
          cases h
          exact ⟨k, _, hu, hk, trivial, by rw [hts]; exact congrArg some (all_ei hc.1), hc.2, .inr ⟨n, u, q, hk, hq⟩⟩
        · cases h
      · cases h
    · cases h
  · cases h
theorem EK.same_eq {p q : EK} (h : EK.same p q = true) : p = q := by cases p <;> cases q <;> first | rfl | (exact congrArg EK.n (beq_iff_eq.1 h)) | cases h
section
variable {C : Cx} {N : Nat → Nat → Prop} {z : Z} {w : World}
theorem bytes_list_beq (p q : ByteArray) : (p.toList == q.toList) = (p == q) := by
  rw [Bool.eq_iff_iff, bytes_beq, beq_iff_eq, ByteArray.toList_eq, ByteArray.toList_eq]
  exact ⟨fun h => ByteArray.ext (Array.toList_inj.mp h), fun h => by rw [h]⟩
theorem now_of {ek : EK} {d : TypeDesc} (hn : ∀ m, ek ≠ .n m) (hd : EkD ek d) {a b : AV} {u v : Value} (ha : isKey ek a = true) (hb : isKey ek b = true) (hu : R C.P N z a u) (hv : R C.P N z b v) {r : Bool} (h : eq1 ek a b = some r) :
    Instr.sameNow d u v = some r ∧ (r = true → v = u) := by
  cases ek with
  | i =>
    cases d <;> first | exact hd.elim | skip
    cases a <;> first | cases ha | skip
    cases b <;> first | cases hb | skip
    rename_i k n k' n'
    obtain rfl := R_int.1 hu
    obtain rfl := R_int.1 hv
    simp only [eq1] at h
    split at h
    · rename_i hk
      subst hk
      cases h
      refine ⟨by simp [Instr.sameNow], fun e => ?_⟩
      have := beq_iff_eq.1 e; rw [this]
    · cases h
  | s =>
    cases d <;> first | exact hd.elim | skip
    cases a <;> first | cases ha | skip
    cases b <;> first | cases hb | skip
    obtain rfl := R_str.1 hu
    obtain rfl := R_str.1 hv
    simp only [eq1, Option.some.injEq] at h
    rw [bytes_list_beq] at h
    refine ⟨by simp only [Instr.sameNow, h], fun e => ?_⟩
    rw [e] at h
    have := (bytes_beq _ _).1 h; rw [this]
  | b =>
    cases d <;> first | exact hd.elim | skip
    cases a <;> first | cases ha | skip
    cases b <;> first | cases hb | skip
    obtain rfl := R_bool.1 hu
    obtain rfl := R_bool.1 hv
    simp only [eq1, Option.some.injEq] at h
    refine ⟨by simp only [Instr.sameNow, h], fun e => ?_⟩
    rw [e] at h
    have := beq_iff_eq.1 h; rw [this]
  | n m => exact absurd rfl (hn m)
/-- Whether two keys are equal, as the kit asks it. -/
def StepK (C : Cx) (w : World) (kt : TypeId) (d : TypeDesc) (u v : Value) (r : Bool) : Prop := match d with
  | .struct _ | .array _ _ => (Op.equal kt u v).run C.P w = .ok r w
  | _ => Instr.sameNow d u v = some r
/-- Where a key stands, as the kit asks it. -/
def FindK (C : Cx) (w : World) (kt : TypeId) (d : TypeDesc) (u : Value) (es : List MapEntry) (i : Nat) (r : Option (Nat × Value)) : Prop := match d with
  | .struct _ | .array _ _ => (Instr.findAsking kt u es i).run C.P w = .ok r w
  | _ => Instr.findNow d u es i = some r
theorem findK_nil {kt : TypeId} {d : TypeDesc} {u : Value} {i : Nat} : FindK C w kt d u [] i none := by
  cases d <;> simp [FindK, Instr.findNow, Instr.findAsking]
theorem findK_hit {kt : TypeId} {d : TypeDesc} {u : Value} {e : MapEntry} {es : List MapEntry} {i : Nat} (h : StepK C w kt d u e.key true) : FindK C w kt d u (e :: es) i (some (i, e.val)) := by
  cases d <;> simp only [StepK] at h <;> simp [FindK, Instr.findNow, Instr.findAsking, h, Result.andThen]
theorem findK_miss {kt : TypeId} {d : TypeDesc} {u : Value} {e : MapEntry} {es : List MapEntry} {i : Nat} {r : Option (Nat × Value)} (h : StepK C w kt d u e.key false) (h2 : FindK C w kt d u es (i + 1) r) : FindK C w kt d u (e :: es) i r := by
  cases d <;> simp only [StepK] at h <;> simp only [FindK] at h2 <;> simp [FindK, Instr.findNow, Instr.findAsking, h, h2, Result.andThen]
theorem run_findKeyK {kt : TypeId} {d : TypeDesc} {u : Value} {es : List MapEntry} {r : Option (Nat × Value)} (hd : C.P.underlying kt = some d) (h : FindK C w kt d u es 0 r) : (Instr.findKey kt u es).run C.P w = .ok r w := by
  cases d
  case struct fs =>
    cases es with
    | nil =>
      simp only [FindK, Instr.findAsking, Sem.run_pure] at h
      cases h
      simp [Instr.findKey, run_underlying hd, Instr.findNow, Result.andThen]
    | cons e es =>
      simp only [FindK] at h
      simp [Instr.findKey, run_underlying hd, Instr.findNow, Instr.sameNow, Result.andThen, h]
  case array n q =>
    cases es with
    | nil =>
      simp only [FindK, Instr.findAsking, Sem.run_pure] at h
      cases h
      simp [Instr.findKey, run_underlying hd, Instr.findNow, Result.andThen]
    | cons e es =>
      simp only [FindK] at h
      simp [Instr.findKey, run_underlying hd, Instr.findNow, Instr.sameNow, Result.andThen, h]
  all_goals exact run_findKey hd h
theorem RL_cons {Q : AV → Value → Prop} {a : AV} {u : Value} {as : List AV} {us : List Value} (h : RL Q (a :: as) (u :: us)) : Q a u ∧ RL Q as us :=
  ⟨h.2 0 a u rfl rfl, by have := h.1; simpa using this, fun i b v h1 h2 => h.2 (i + 1) b v (by simpa using h1) (by simpa using h2)⟩
theorem eqs_ints : ∀ (m : Nat) (as bs : List AV) (us vs : List Value), eqs (List.replicate m .i) as bs = some true → RL (R C.P N z) as us → RL (R C.P N z) bs vs → vs = us
  | 0, [], [], us, vs, _, h1, h2 => by
    rw [List.eq_nil_of_length_eq_zero h1.1.symm, List.eq_nil_of_length_eq_zero h2.1.symm]
  | m + 1, a :: as, b :: bs, us, vs, h, h1, h2 => by
    cases us with
    | nil => have := h1.1; simp at this
    | cons u us =>
      cases vs with
      | nil => have := h2.1; simp at this
      | cons v vs =>
        obtain ⟨p1, p2⟩ := RL_cons h1
        obtain ⟨q1, q2⟩ := RL_cons h2
        rw [List.replicate_succ] at h
        simp only [eqs, Option.bind_eq_some_iff, Option.map_eq_some_iff] at h
        obtain ⟨x, hx, y, hy, hxy⟩ := h
        rw [Bool.and_eq_true] at hxy
        obtain ⟨rfl, rfl⟩ := hxy
        obtain ⟨_, e⟩ := now_of (C := C) (N := N) (z := z) (ek := .i) (d := .int .i64) (fun m h => by cases h) trivial (a := a) (b := b) (by cases a <;> simp [eq1] at hx <;> rfl) (by cases a <;> cases b <;> simp [eq1] at hx <;> rfl) p1 q1 hx
        rw [e rfl, eqs_ints m as bs us vs hy p2 q2]
  | 0, _ :: _, _, _, _, h, _, _ => by simp [eqs] at h
  | 0, [], _ :: _, _, _, h, _, _ => by simp [eqs] at h
  | m + 1, [], _, _, _, h, _, _ => by simp [eqs, List.replicate_succ] at h
  | m + 1, _ :: _, [], _, _, h, _, _ => by simp [eqs, List.replicate_succ] at h
theorem key_step {ek : EK} {d : TypeDesc} {kt : TypeId} (hd : EkD ek d) (hK : KeyT C.P kt ek) {a b : AV} {u v : Value} (ha : isKey ek a = true) (hb : isKey ek b = true) (hu : R C.P N z a u) (hv : R C.P N z b v) {r : Bool} (h : keq ek a b = some r) :
    StepK C w kt d u v r ∧ (r = true → v = u) := by
  cases ek with
  | n m =>
    cases a <;> first | cases ha | skip
    cases b <;> first | cases hb | skip
    rename_i as bs
    have h' : eqs (List.replicate m .i) as bs = some r := h
    have hst : isStruct C.P kt = true := by
      obtain ⟨_, _, ⟨fs, h, _⟩ | ⟨_, _, _, h, _⟩⟩ := hK <;> simp [isStruct, h]
    have q := (eqv_sound (w := w) hK.1 hK.2.1 hu hv (by rw [hst]; exact h') (.func 0) (.func 0) .eql).1
    refine ⟨by cases d <;> first | exact hd.elim | exact q, fun e => ?_⟩
    subst e
    obtain ⟨us, rfl, hx⟩ := R_agg.1 hu
    obtain ⟨vs, rfl, hy⟩ := R_agg.1 hv
    rw [Array.toList_inj.1 (eqs_ints m as bs us.toList vs.toList h' hx hy)]
  | b =>
    have := now_of (fun m h => by cases h) hd ha hb hu hv h
    cases d <;> first | exact hd.elim | exact this
  | i =>
    have := now_of (fun m h => by cases h) hd ha hb hu hv h
    cases d <;> first | exact hd.elim | exact this
  | s =>
    have := now_of (fun m h => by cases h) hd ha hb hu hv h
    cases d <;> first | exact hd.elim | exact this
/-- What a find comes to. -/
def Found (C : Cx) (N : Nat → Nat → Prop) (z : Z) (w : World) (kt : TypeId) (d : TypeDesc) (u : Value) (es : List MapEntry) (i : Nat) : Option (Nat × AV) → Prop
  | none => FindK C w kt d u es i none
  | some (j, v) => ∃ e, i ≤ j ∧ es[j - i]? = some e ∧ e.key = u ∧ FindK C w kt d u es i (some (j, e.val)) ∧ R C.P N z v e.val
theorem mfind_sound {ek : EK} {d : TypeDesc} {kt : TypeId} (hd : EkD ek d) (hK : KeyT C.P kt ek) {key : AV} {u : Value} (hk : isKey ek key = true) (hu : R C.P N z key u) : ∀ (kvs : List (AV × AV)) (es : List MapEntry) (i : Nat) (r : Option (Nat × AV)),
    ∀ {c : Nat}, MpOK C.P N z ek kvs es c → mfind ek key kvs i = some r → Found C N z w kt d u es i r
  | [], [], i, r, _, _, h => by
    simp only [mfind, Option.some.injEq] at h
    subst h; exact findK_nil
  | [], _ :: _, i, r, _, hm, h => by have := hm.1.1; simp at this
  | _ :: _, [], i, r, _, hm, h => by have := hm.1.1; simp at this
  | p :: kvs, e :: es, i, r, c, hm, h => by
    obtain ⟨h1, h2, h3⟩ := hm.2 0 p e rfl rfl
    have hm' : MpOK C.P N z ek kvs es c := ⟨⟨by simpa using hm.1.1, fun f hf => hm.1.2.1 f (List.mem_cons_of_mem _ hf), (List.nodup_cons.1 hm.1.2.2).2⟩, fun j q f h4 h5 => hm.2 (j + 1) q f (by simpa using h4) (by simpa using h5)⟩
    simp only [mfind] at h
    split at h
    · rename_i he
      split at h
      · cases h
        obtain ⟨h4, h5⟩ := key_step (w := w) hd hK hk h1 hu h2 he
        exact ⟨e, Nat.le_refl _, by simp, h5 rfl, findK_hit h4, h3⟩
      · cases h
    · rename_i he
      obtain ⟨h4, _⟩ := key_step (w := w) hd hK hk h1 hu h2 he
      have ih := mfind_sound hd hK hk hu kvs es (i + 1) r hm' h
      cases r with
      | none => exact findK_miss h4 ih
      | some jv =>
        obtain ⟨j, v⟩ := jv
        obtain ⟨f, h6, h7, h8, h9, h10⟩ := ih
        refine ⟨f, by omega, ?_, h8, findK_miss h4 h9, h10⟩
        rw [show j - i = (j - (i + 1)) + 1 by omega]; simpa using h7
    · cases h
theorem mfind_all {m : Nat} {key : AV} : ∀ {kvs : List (AV × AV)} {i : Nat} {r : Option (Nat × AV)}, mfind (.n m) key kvs i = some r → match r with
    | none => ∀ (t : Nat) p, kvs[t]? = some p → keq (.n m) key p.1 = some false
    | some (j, _) => i ≤ j ∧ (∀ p, kvs[j - i]? = some p → keq (.n m) key p.1 = some true) ∧ ∀ (t : Nat) p, t ≠ j - i → kvs[t]? = some p → keq (.n m) key p.1 = some false
  | [], i, r, h => by
    simp only [mfind, Option.some.injEq] at h
    subst h
    intro t p hp; simp at hp
  | p :: kvs, i, r, h => by
    simp only [mfind] at h
    split at h
    · rename_i he
      split at h
      · rename_i ha
        cases h
        refine ⟨Nat.le_refl _, fun q hq => ?_, fun t q ht hq => ?_⟩
        · rw [Nat.sub_self] at hq; simp at hq; subst hq; exact he
        · rw [Nat.sub_self] at ht
          obtain ⟨t, rfl⟩ := Nat.exists_eq_succ_of_ne_zero ht
          have := List.all_eq_true.1 ha q (List.mem_of_getElem? (by simpa using hq))
          simpa using this
      · cases h
    · rename_i he
      have ih := mfind_all h
      cases r with
      | none =>
        intro t q hq
        cases t with
        | zero => simp at hq; subst hq; exact he
        | succ t => exact ih t q (by simpa using hq)
      | some jv =>
        obtain ⟨j, v⟩ := jv
        obtain ⟨h1, h2, h3⟩ := ih
        have hj : j - i = (j - (i + 1)) + 1 := by omega
        refine ⟨by omega, fun q hq => h2 q (by rw [hj] at hq; simpa using hq), fun t q ht hq => ?_⟩
        cases t with
        | zero => simp at hq; subst hq; exact he
        | succ t => exact h3 t q (by omega) (by simpa using hq)
    · cases h
theorem findK_none {kt : TypeId} {d : TypeDesc} {u : Value} : ∀ {es : List MapEntry} {i : Nat}, (∀ e ∈ es, StepK C w kt d u e.key false) → FindK C w kt d u es i none
  | [], _, _ => findK_nil
  | e :: es, _, h => findK_miss (h e (by simp)) (findK_none fun f hf => h f (by simp [hf]))
theorem findK_at {kt : TypeId} {d : TypeDesc} {u : Value} {e : MapEntry} {b : List MapEntry} (he : StepK C w kt d u e.key true) : ∀ {a : List MapEntry} {i : Nat}, (∀ f ∈ a, StepK C w kt d u f.key false) → FindK C w kt d u (a ++ e :: b) i (some (i + a.length, e.val))
  | [], _, _ => findK_hit he
  | f :: a, i, h => by
    have := findK_at (b := b) he (a := a) (i := i + 1) fun g hg => h g (by simp [hg])
    rw [List.length_cons, show i + (a.length + 1) = i + 1 + a.length by omega]
    exact findK_miss (h f (by simp)) this
theorem perm_erase {α : Type} : ∀ (l : List α) (n : Nat) (h : n < l.length), (l[n] :: l.eraseIdx n).Perm l
  | _ :: _, 0, _ => List.Perm.refl _
  | a :: l, n + 1, h => (List.Perm.swap a (l[n]'(by simpa using h)) (l.eraseIdx n)).trans ((perm_erase l n (by simpa using h)).cons a)
theorem perm_set {α : Type} : ∀ (l : List α) (n : Nat) (_ : n < l.length) (x : α), (l.set n x).Perm (x :: l.eraseIdx n)
  | _ :: _, 0, _, _ => List.Perm.refl _
  | a :: l, n + 1, h, x => ((perm_set l n (by simpa using h) x).cons a).trans (List.Perm.swap x a _)
/-- What a find in a map comes to, whose entries stand in some order. -/
theorem mfind_perm {ek : EK} {d : TypeDesc} {kt : TypeId} (hd : EkD ek d) (hK : KeyT C.P kt ek) {key : AV} {u : Value} (hk : isKey ek key = true) (hu : R C.P N z key u) {kvs : List (AV × AV)} {es : List MapEntry} {c : Nat} (hm : MpP C.P N z ek kvs es c)
    {r : Option (Nat × AV)} (h : mfind ek key kvs 0 = some r) : match r with
    | none => FindK C w kt d u es 0 none
    | some (j, v) => ∃ es' i e, es'.Perm es ∧ (ek.isN = false → es' = es ∧ i = j) ∧ MpOK C.P N z ek kvs es' c ∧ es'[j]? = some e ∧ es[i]? = some e ∧ e.key = u ∧ FindK C w kt d u es 0 (some (i, e.val)) ∧ R C.P N z v e.val ∧ (es'.eraseIdx j).Perm (es.eraseIdx i) := by
  obtain ⟨es', hp, hn, hm'⟩ := hm
  have hs := mfind_sound (w := w) hd hK hk hu kvs es' 0 r hm' h
  cases hN : ek.isN with
  | false =>
    obtain rfl := hn hN
    cases r with
    | none => exact hs
    | some jv =>
      obtain ⟨j, v⟩ := jv
      obtain ⟨e, _, h1, h2, h3, h4⟩ := hs
      exact ⟨es', j, e, hp, fun _ => ⟨rfl, rfl⟩, hm', h1, h1, h2, h3, h4, List.Perm.refl _⟩
  | true =>
    obtain ⟨m, rfl⟩ : ∃ m, ek = .n m := by
      cases ek with
      | n m => exact ⟨m, rfl⟩
      | _ => cases hN
    have ha := mfind_all h
    have get : ∀ {t : Nat} {f : MapEntry}, es'[t]? = some f → ∃ p, kvs[t]? = some p := fun {t f} hf => by
      have hlt := (List.getElem?_eq_some_iff.1 hf).1
      exact ⟨_, List.getElem?_eq_getElem (by rw [hm'.1.1]; exact hlt)⟩
    have stp : ∀ {t : Nat} {f : MapEntry} {b : Bool}, es'[t]? = some f → (∀ p, kvs[t]? = some p → keq (.n m) key p.1 = some b) → StepK C w kt d u f.key b := fun {t f b} hf hb => by
      obtain ⟨p, hp⟩ := get hf
      obtain ⟨q1, q2, _⟩ := hm'.2 t p f hp hf
      exact (key_step (w := w) hd hK hk q1 hu q2 (hb p hp)).1
    cases r with
    | none =>
      refine findK_none fun f hf => ?_
      obtain ⟨t, ht⟩ := List.mem_iff_getElem?.1 (hp.mem_iff.2 hf)
      exact stp ht fun p hp => ha t p hp
    | some jv =>
      obtain ⟨j, v⟩ := jv
      obtain ⟨e, _, h1, h2, _, h4⟩ := hs
      obtain ⟨_, ha1, ha2⟩ := ha
      rw [Nat.sub_zero] at h1 ha1 ha2
      have hte := stp h1 ha1
      obtain ⟨a, b, rfl⟩ := List.append_of_mem (hp.mem_iff.1 (List.mem_of_getElem? h1))
      have hjl := (List.getElem?_eq_some_iff.1 h1).1
      have hpe : (es'.eraseIdx j).Perm (a ++ b) := by
        have e1 : (e :: es'.eraseIdx j).Perm es' := by
          have := perm_erase es' j hjl
          rwa [(List.getElem?_eq_some_iff.1 h1).2] at this
        exact (List.perm_cons e).1 ((e1.trans hp).trans List.perm_middle)
      refine ⟨es', a.length, e, hp, (fun hh => by cases hh), hm', h1, by simp, h2, ?_, h4, ?_⟩
      · have := findK_at (b := b) hte (a := a) (i := 0) fun f hf => by
          obtain ⟨t, ht1, ht2⟩ := List.mem_eraseIdx_iff_getElem?.1 (hpe.mem_iff.2 (List.mem_append_left b hf))
          exact stp ht2 fun p hp => ha2 t p ht1 hp
        rwa [Nat.zero_add] at this
      · rw [List.eraseIdx_append_of_length_le (Nat.le_refl _)]
        simpa using hpe
theorem ins_split (ek : EK) (key v : AV) (kvs : List (AV × AV)) : ∃ a b, kvs = a ++ b ∧ ek.ins key v kvs = a ++ (key, v) :: b ∧ (ek.isN = false → b = []) := by
  have hm : ∀ kvs : List (AV × AV), ∃ a b, kvs = a ++ b ∧ mins key v kvs = a ++ (key, v) :: b := by
    intro kvs
    induction kvs with
    | nil => exact ⟨[], [], rfl, rfl⟩
    | cons p r ih =>
      unfold mins
      split
      · exact ⟨[], p :: r, rfl, rfl⟩
      · obtain ⟨a, b, h1, h2⟩ := ih
        exact ⟨p :: a, b, by rw [h1]; rfl, by rw [h2]; rfl⟩
  cases ek with
  | n m => obtain ⟨a, b, h1, h2⟩ := hm kvs; exact ⟨a, b, h1, h2, fun h => by cases h⟩
  | b => exact ⟨kvs, [], by simp, rfl, fun _ => rfl⟩
  | i => exact ⟨kvs, [], by simp, rfl, fun _ => rfl⟩
  | s => exact ⟨kvs, [], by simp, rfl, fun _ => rfl⟩
theorem MpOK.ins {ek : EK} {a b : List (AV × AV)} {es : List MapEntry} {c : Nat} (h : MpOK C.P N z ek (a ++ b) es c) {p : AV × AV} {e : MapEntry} (he : e.born = c) (hq : isKey ek p.1 = true ∧ R C.P N z p.1 e.key ∧ R C.P N z p.2 e.val) :
    MpOK C.P N z ek (a ++ p :: b) (es.take a.length ++ e :: es.drop a.length) (c + 1) := by
  obtain ⟨⟨h1, h2, h3⟩, h4⟩ := h
  rw [List.length_append] at h1
  have hp : (es.take a.length ++ e :: es.drop a.length).Perm (e :: es) := by
    have := List.perm_middle (a := e) (l₁ := es.take a.length) (l₂ := es.drop a.length)
    rwa [List.take_append_drop] at this
  have hl : (es.take a.length).length = a.length := by rw [List.length_take]; omega
  refine ⟨⟨by simp; omega, fun f hf => ?_, (hp.map (·.born)).nodup_iff.2 ?_⟩, fun i q f hi hf => ?_⟩
  · rcases List.mem_cons.1 (hp.mem_iff.1 hf) with rfl | hf
    · omega
    · have := h2 f hf; omega
  · rw [List.map_cons, List.nodup_cons]
    refine ⟨fun hm => ?_, h3⟩
    obtain ⟨f, hf, e1⟩ := List.mem_map.1 hm
    have := h2 f hf; omega
  · by_cases hlt : i < a.length
    · rw [List.getElem?_append_left hlt] at hi
      rw [List.getElem?_append_left (by omega), List.getElem?_take, if_pos hlt] at hf
      exact h4 i q f (by rw [List.getElem?_append_left hlt]; exact hi) hf
    · rw [List.getElem?_append_right (by omega)] at hi
      rw [List.getElem?_append_right (by omega), hl] at hf
      cases hd : i - a.length with
      | zero =>
        rw [hd] at hi hf
        simp at hi hf
        subst hi; subst hf
        exact hq
      | succ k =>
        rw [hd] at hi hf
        simp only [List.getElem?_cons_succ] at hi hf
        rw [List.getElem?_drop] at hf
        exact h4 (a.length + k) q f (by rw [List.getElem?_append_right (by omega)]; rw [show a.length + k - a.length = k by omega]; exact hi) hf
theorem run_checkKey_pl {ek : EK} {d : TypeDesc} (hn : ∀ m, ek ≠ .n m) (hd : EkD ek d) {kt : TypeId} (hk : C.P.underlying kt = some d) (e : Bool) (n : Nat) (v : Value) : (Instr.checkKey e (n + 1) kt v).run C.P w = .ok () w := by
  unfold Instr.checkKey
  simp only [Sem.run_bind, run_underlying hk, Result.andThen]
  cases ek <;> first | exact absurd rfl (hn _) | skip
  all_goals cases d <;> first | exact hd.elim | skip
  all_goals cases v <;> simp
theorem run_checkKey_ek {ek : EK} {d : TypeDesc} {kt : TypeId} (hd : EkD ek d) (hK : KeyT C.P kt ek) (hk : C.P.underlying kt = some d) {a : AV} (ha : isKey ek a = true) {v : Value} (hv : R C.P N z a v) (e : Bool) (n : Nat) : (Instr.checkKey e (n + 2) kt v).run C.P w = .ok () w := by
  cases ek with
  | n m =>
    cases a <;> first | cases ha | skip
    rename_i as
    obtain ⟨us, rfl, hx⟩ := R_agg.1 hv
    have hlen : as.length = m := by
      have h0 : (as.length == m && as.all isI) = true := ha
      rw [Bool.and_eq_true, beq_iff_eq] at h0; exact h0.1
    have hus : us.size = m := by rw [← hlen]; exact hx.1.symm
    obtain ⟨hf, _, ⟨fs, hk', hint⟩ | ⟨nn, eu, q, hk', hq⟩⟩ := hK
    rotate_left
    · rw [hk] at hk'
      obtain rfl := Option.some.inj hk'
      replace hf : flatEq C.P (5 + 1) kt = some (List.replicate m .i) := hf
      rw [flatEq, hk] at hf
      dsimp only at hf
      split at hf
      · rename_i k0 hk0
        split at hf
        · have hnm : nn = m := by have := congrArg List.length (Option.some.inj hf); simpa using this
          have hse := flatEq_size hk0
          have hag := flatEq_agg (w := w) hk0
          obtain ⟨ie, hie, hie1⟩ : ∃ i, C.P.info? eu = some i ∧ i.size = 1 := by
            simp only [sizeT, Option.map_eq_some_iff] at hse
            exact hse
          have hci : ∀ x, (Instr.checkKey e (n + 1) eu x).run C.P w = .ok () w := fun x => by
            unfold Instr.checkKey
            simp only [Sem.run_bind, run_underlying hq, Result.andThen]
            cases x <;> simp
          rw [show n + 2 = (n + 1) + 1 from rfl, Instr.checkKey]
          simp only [Sem.run_bind, run_underlying hk, Result.andThen_ok]
          simp only [Std.Legacy.Range.forIn_eq_forIn_range', Std.Legacy.Range.size, Nat.sub_zero, Nat.add_one_sub_one, Nat.div_one]
          have key : ∀ (k p : Nat), p + k ≤ us.size → (forIn (List.range' p k) PUnit.unit (fun i _ => do
              Instr.checkKey e (n + 1) eu (← part eu us (i * (← sizeOf eu)))
              pure (ForInStep.yield PUnit.unit) : Nat → PUnit → Sem (ForInStep PUnit))).run C.P w = .ok PUnit.unit w := by
            intro k
            induction k with
            | zero => intro p _; simp
            | succ k ih =>
              intro p hp
              have hpx := part_mk (C := C) (w := w) hse hag us.toList p (by show p + 1 ≤ _; simp; omega)
              rw [Array.toArray_toList] at hpx
              simp only [List.range'_succ, List.forIn_cons, Sem.run_bind, sizeOf, typeInfo, run_program, hie, Sem.run_pure, Result.andThen_ok, hie1, Nat.mul_one, hpx, hci]
              have := ih (p + 1) (by omega)
              simp only [sizeOf, typeInfo] at this
              exact this
          have := key nn 0 (by omega)
          simp at this ⊢
          rw [this]; rfl
        · cases hf
      · cases hf
    rw [hk] at hk'
    obtain rfl := Option.some.inj hk'
    replace hf : flatEq C.P (5 + 1) kt = some (List.replicate m .i) := hf
    rw [flatEq, hk] at hf
    dsimp only at hf
    split at hf
    · cases hf
    simp only [Option.bind_eq_some_iff] at hf
    obtain ⟨l, hfold, hf⟩ := hf
    split at hf
    · rename_i hsz
      cases hf
      rw [show n + 2 = (n + 1) + 1 from rfl, Instr.checkKey]
      simp only [Sem.run_bind, run_underlying hk, Result.andThen_ok]
      rw [← Array.forIn_toList]
      have key : ∀ (fl : List Field) (p : Nat) (l2 : List EK), fl.foldr (fun f r => fun (off : Nat) => if f.name ≠ "_" ∧ f.offset = off then (flatEq C.P 5 f.type).bind fun a => (r (off + a.length)).map (a ++ ·) else none) (fun _ => some []) p = some l2 → fl.all (intF C.P) = true → p + l2.length ≤ us.size →
          (forIn fl PUnit.unit (fun f _ => do
            if f.name ≠ "_" then
              Instr.checkKey e (n + 1) f.type (← part f.type us f.offset)
              pure (ForInStep.yield PUnit.unit)
            else pure (ForInStep.yield PUnit.unit)) : Sem PUnit).run C.P w = .ok PUnit.unit w := by
        intro fl
        induction fl with
        | nil => intro p l2 _ _ _; simp
        | cons f fl ih =>
          intro p l2 h1 h2 h3
          simp only [List.foldr_cons] at h1
          split at h1
          · rename_i hc
            simp only [Option.bind_eq_some_iff, Option.map_eq_some_iff] at h1
            obtain ⟨l3, hl3, l4, hl4, rfl⟩ := h1
            rw [List.length_append] at h3
            simp only [List.all_cons, Bool.and_eq_true] at h2
            have hp := part_mk (C := C) (w := w) (flatEq_size hl3) (flatEq_agg (w := w) hl3) us.toList p (show p + l3.length ≤ us.size by omega)
            rw [Array.toArray_toList, ← hc.2] at hp
            have hci : ∀ x, (Instr.checkKey e (n + 1) f.type x).run C.P w = .ok () w := fun x => by
              have hi := h2.1
              unfold intF at hi
              split at hi
              · rename_i q hq
                unfold Instr.checkKey
                simp only [Sem.run_bind, run_underlying hq, Result.andThen]
                cases x <;> simp
              · cases hi
            have hr := ih (p + l3.length) l4 hl4 h2.2 (by omega)
            simp only [List.forIn_cons, Sem.run_bind, hc.1, ne_eq, not_false_eq_true, if_true, Result.andThen_ok, hp, hci, Sem.run_pure]
            simpa using hr
          · cases h1
      have := key fs.toList 0 _ hfold hint (by rw [hus]; simp)
      simp at this ⊢
      rw [this]; rfl
    · cases hf
  | b => exact run_checkKey_pl (fun m h => by cases h) hd hk e (n + 1) v
  | i => exact run_checkKey_pl (fun m h => by cases h) hd hk e (n + 1) v
  | s => exact run_checkKey_pl (fun m h => by cases h) hd hk e (n + 1) v
theorem keyStays_n {m : Nat} {key : AV} {kv : Value} (ha : isKey (.n m) key = true) (hk : R C.P N z key kv) : (Instr.keyThatStays kv kv).run C.P w = .ok kv w := by
  cases key <;> first | (cases ha; done) | skip
  rename_i as
  have h0 : (as.length == m && as.all isI) = true := ha
  rw [Bool.and_eq_true, List.all_eq_true] at h0
  obtain ⟨us, rfl, hx⟩ := R_agg.1 hk
  have hs : Instr.sameBits 10000 (.agg us) (.agg us) = true := by
    show Instr.sameBits (9999 + 1) (.agg us) (.agg us) = true
    simp only [Instr.sameBits, beq_self_eq_true, Bool.true_and, List.all_eq_true]
    intro p hp
    obtain ⟨i, hi, e⟩ := List.getElem_of_mem hp
    rw [List.getElem_zip] at e
    rw [← e]
    have hiu : i < us.toList.length := by rw [List.length_zip] at hi; omega
    have hia : i < as.length := by rw [hx.1]; exact hiu
    have hR := hx.2 i as[i] us.toList[i] (List.getElem?_eq_getElem hia) (List.getElem?_eq_getElem hiu)
    have hI := h0.2 as[i] (List.getElem_mem hia)
    generalize as[i] = q at hR hI
    cases q <;> first | (cases hI; done) | skip
    rw [R_int.1 hR]
    simp [Instr.sameBits]
  simp [Instr.keyThatStays, hs]
theorem mget_sound (hG : Good C N z) (hh : z.h = w.heap) {t : TypeId} {ek : EK} {e : TypeId} (ht : mapT C.P t = some (ek, e)) {z0 : AV} (hz : zeroT C.P e = some z0) {x key v : AV} {xv kv : Value} (hx : R C.P N z x xv) (hk : R C.P N z key kv) {ok : Bool}
    (h : mgetAt z.m ek z0 ok x key = some v) : ∃ v', (Instr.lookup t xv kv ok).run C.P w = .ok v' w ∧ R C.P N z v v' := by
  obtain ⟨k, d, h1, h2, h3, hKT⟩ := mapT_eq ht
  unfold mgetAt at h
  split at h
  · rename_i id
    split at h
    · rename_i kvs ek' hb
      split at h
      · rename_i hc
        obtain rfl := EK.same_eq hc.1
        obtain ⟨hid, rfl⟩ := R_mp.1 hx
        obtain ⟨es, clock, h4, h5⟩ := hG.mp id kvs ek hb
        rw [hh] at h4
        unfold mgetL at h
        obtain ⟨r, h6, h7⟩ := Option.map_eq_some_iff.1 h
        have hf := mfind_perm (w := w) h3 hKT hc.2 hk h5 h6
        cases r with
        | none =>
          obtain ⟨x0, h8, h9⟩ := zeroT_sound (w := w) (N := N) (z := z) hz
          refine ⟨if ok then .tuple #[x0, .bool false] else x0, ?_, ?_⟩
          · simp [Instr.lookup, run_underlying h1, run_getObj_map h4, run_checkKey_ek h3 hKT h2 hc.2 hk, run_findKeyK h2 hf, h8, Result.andThen]
          · subst h7
            cases ok
            · exact h9
            · exact R_tup.2 ⟨_, rfl, rfl, fun i a u ha hu => by
                match i, ha, hu with
                | 0, ha, hu => simp at ha hu; subst ha; subst hu; exact h9
                | 1, ha, hu => simp at ha hu; subst ha; subst hu; exact R_bool.2 rfl
                | i + 2, ha, hu => simp at ha⟩
        | some jv =>
          obtain ⟨j, v1⟩ := jv
          obtain ⟨_, _, f, _, _, _, _, _, _, h8, h9, _⟩ := hf
          refine ⟨if ok then .tuple #[f.val, .bool true] else f.val, ?_, ?_⟩
          · simp [Instr.lookup, run_underlying h1, run_getObj_map h4, run_checkKey_ek h3 hKT h2 hc.2 hk, run_findKeyK h2 h8, Result.andThen]
          · subst h7
            cases ok
            · exact h9
            · exact R_tup.2 ⟨_, rfl, rfl, fun i a u ha hu => by
                match i, ha, hu with
                | 0, ha, hu => simp at ha hu; subst ha; subst hu; exact h9
                | 1, ha, hu => simp at ha hu; subst ha; subst hu; exact R_bool.2 rfl
                | i + 2, ha, hu => simp at ha⟩
      · cases h
    · cases h
  · split at h
    · rename_i hc
      cases h
      obtain rfl := R_nilm.1 hx
      obtain ⟨x0, h8, h9⟩ := zeroT_sound (w := w) (N := N) (z := z) hz
      have hf : FindK C w k d kv ([] : List MapEntry) 0 none := findK_nil
      refine ⟨if ok then .tuple #[x0, .bool false] else x0, ?_, ?_⟩
      · simp [Instr.lookup, run_underlying h1, run_checkKey_ek h3 hKT h2 hc hk, run_findKeyK h2 hf, h8, Result.andThen]
      · cases ok
        · exact h9
        · exact R_tup.2 ⟨_, rfl, rfl, fun i a u ha hu => by
            match i, ha, hu with
            | 0, ha, hu => simp at ha hu; subst ha; subst hu; exact h9
            | 1, ha, hu => simp at ha hu; subst ha; subst hu; exact R_bool.2 rfl
            | i + 2, ha, hu => simp at ha⟩
    · cases h
  · cases h
theorem mkmap_sound (hG : Good C N z) (hh : z.h = w.heap) (t : TypeId) (ek : EK) :
    OpRes C N z { z.m with blks := z.m.blks ++ [.mp [] ek] } (.mp z.m.blks.length) w ((do pure (.value (← Instr.makeMap t none)) : Sem Next).run C.P w) := by
  refine ⟨.map (some w.heap.size), w.alloc (.map #[] 0), z.grow (.map #[] 0) (.mp [] ek), .inl ?_, ?_, grow_good hG (fun _ _ h => by cases h) (fun _ _ _ _ _ _ h => by cases h) (fun kvs ek' h => ?_), grow_tr hG _ _, ?_, rfl, ⟨rfl, rfl, rfl⟩⟩
  · simp [Instr.makeMap, newObj, Sem.run, Result.andThen]
  · exact R_mp.2 ⟨by simp [Z.grow], by simp [Z.grow, hh]⟩
  · cases h
    exact ⟨#[], 0, rfl, [], List.Perm.refl _, fun _ => rfl, ⟨rfl, fun e he => by simp at he, by simp⟩, fun i p e h => by simp at h⟩
  · show z.h.push _ = _; rw [hh]; rfl
theorem mput_sound (hG : Good C N z) (hh : z.h = w.heap) {t : TypeId} {ek : EK} {e : TypeId} (ht : mapT C.P t = some (ek, e)) {x key v : AV} {xv kv vv : Value} (hx : R C.P N z x xv) (hk : R C.P N z key kv) (hv : R C.P N z v vv) {m' : Mem}
    (h : mputAt z.m ek x key v = some m') : OpRes C N z m' .undef w ((do Instr.mapUpdate t xv kv vv; pure .skip : Sem Next).run C.P w) := by
  obtain ⟨k, d, h1, h2, h3, hKT⟩ := mapT_eq ht
  unfold mputAt at h
  split at h
  · rename_i id
    split at h
    · rename_i kvs ek' hb
      split at h
      · rename_i hc
        obtain rfl := EK.same_eq hc.1
        obtain ⟨hid, rfl⟩ := R_mp.1 hx
        obtain ⟨es, clock, h4, h5⟩ := hG.mp id kvs ek hb
        have h4' := h4
        rw [hh] at h4
        obtain ⟨kvs', h6, h7⟩ := Option.map_eq_some_iff.1 h
        unfold mputL at h6
        obtain ⟨r, h6, h8⟩ := Option.map_eq_some_iff.1 h6
        have hf := mfind_perm (w := w) h3 hKT hc.2 hk h5 h6
        subst h7
        cases r with
        | none =>
          replace hf : FindK C w k d kv es.toList 0 none := hf
          simp only at h8
          subst h8
          refine ⟨undef, { w with heap := w.heap.setIfInBounds (z.ρ id) (.map (es.push { key := kv, val := vv, born := clock }) (clock + 1)) }, z.putM id (.mp (ek.ins key v kvs) ek) (.map (es.push { key := kv, val := vv, born := clock }) (clock + 1)), .inr ⟨?_, rfl⟩, R_undef _,
            putM_good hG hb _ ?_, putM_tr hG hb _ _ _, ?_, rfl, ⟨rfl, rfl, rfl⟩⟩
          · simp [Instr.mapUpdate, run_underlying h1, run_getObj_map h4, run_checkKey_ek h3 hKT h2 hc.2 hk, run_findKeyK h2 hf, run_setObj_map _ h4, Result.andThen]
          · obtain ⟨es', hp, hn, hmm⟩ := h5
            obtain ⟨a, b, rfl, e2, e3⟩ := ins_split ek key v kvs
            rw [e2]
            have hmk := hmm.ins (p := (key, v)) (e := { key := kv, val := vv, born := clock }) rfl ⟨hc.2, hk, hv⟩
            have hpm : (es'.take a.length ++ ({ key := kv, val := vv, born := clock } : MapEntry) :: es'.drop a.length).Perm (es.toList ++ [{ key := kv, val := vv, born := clock }]) := by
              have := List.perm_middle (a := ({ key := kv, val := vv, born := clock } : MapEntry)) (l₁ := es'.take a.length) (l₂ := es'.drop a.length)
              rw [List.take_append_drop] at this
              exact (this.trans (hp.cons _)).trans (List.perm_append_singleton _ _).symm
            refine ⟨_, by rw [Array.toList_push]; exact hpm, fun hN => ?_, hmk⟩
            obtain rfl := hn hN
            obtain rfl := e3 hN
            have hl := hmm.1.1
            rw [List.append_nil] at hl
            rw [Array.toList_push, List.take_of_length_le (by omega), List.drop_eq_nil_of_le (by omega)]
          · show z.h.setIfInBounds _ _ = _; rw [hh]
        | some jv =>
          obtain ⟨j, v1⟩ := jv
          obtain ⟨es', i, f, hp, hn, hmm, g9, h9, h10, h11, _, hpe⟩ := hf
          simp only at h8
          subst h8
          have h9' : es[i]? = some f := by rw [← Array.getElem?_toList]; exact h9
          have hst : (Instr.keyThatStays kv kv).run C.P w = .ok kv w := by
            by_cases hn : ∃ m, ek = .n m
            · obtain ⟨m, rfl⟩ := hn
              exact keyStays_n hc.2 hk
            obtain ⟨dd, hdd⟩ : ∃ dd, IsKey dd kv := by
              cases ek <;> cases key <;> first | (exfalso; cases hc.2; done) | exact absurd ⟨_, rfl⟩ hn | skip
              · obtain rfl := R_bool.1 hk; exact ⟨.bool, trivial⟩
              · obtain rfl := R_int.1 hk; exact ⟨.int _, rfl⟩
              · obtain rfl := R_str.1 hk; exact ⟨.string, trivial⟩
            exact run_keyThatStays hdd
          let g : MapEntry → MapEntry := fun e => { e with key := kv, val := vv }
          refine ⟨undef, { w with heap := w.heap.setIfInBounds (z.ρ id) (.map (es.modify i g) clock) }, z.putM id (.mp (kvs.set j (key, v)) ek) (.map (es.modify i g) clock), .inr ⟨?_, rfl⟩, R_undef _,
            putM_good hG hb _ ?_, putM_tr hG hb _ _ _, ?_, rfl, ⟨rfl, rfl, rfl⟩⟩
          · simp [Instr.mapUpdate, run_underlying h1, run_getObj_map h4, run_checkKey_ek h3 hKT h2 hc.2 hk, run_findKeyK h2 h11, h9', h10, hst, run_setObj_map _ h4, Result.andThen, g]
          · have hil := (List.getElem?_eq_some_iff.1 h9).1
            have hjl := (List.getElem?_eq_some_iff.1 g9).1
            have hml : (es.modify i g).toList = es.toList.set i (g f) := by
              refine List.ext_getElem? fun q => ?_
              rw [Array.getElem?_toList, Array.getElem?_modify, List.getElem?_set]
              by_cases hq : i = q
              · subst hq; rw [if_pos rfl, if_pos rfl, if_pos hil, h9']; rfl
              · rw [if_neg hq, if_neg hq, Array.getElem?_toList]
            have hbn : (es'.set j (g f)).map (·.born) = es'.map (·.born) := by
              rw [List.map_set]
              refine List.ext_getElem? fun q => ?_
              rw [List.getElem?_set]
              split
              · rename_i hq
                subst hq
                rw [if_pos (by simpa using hjl), List.getElem?_map, g9]; rfl
              · rfl
            rw [hml]
            refine ⟨es'.set j (g f), ?_, fun hN => ?_, ⟨by simp [hmm.1.1], fun q hq => ?_, by rw [hbn]; exact hmm.1.2.2⟩, fun t p q hp' hq => ?_⟩
            · exact ((perm_set es' j hjl _).trans (hpe.cons _)).trans (perm_set es.toList i hil _).symm
            · obtain ⟨rfl, rfl⟩ := hn hN; rfl
            · have hm : q.born ∈ es'.map (·.born) := by rw [← hbn]; exact List.mem_map.2 ⟨q, hq, rfl⟩
              obtain ⟨q', hq', e⟩ := List.mem_map.1 hm
              rw [← e]; exact hmm.1.2.1 q' hq'
            · rcases get_set hp' with ⟨rfl, rfl, _⟩ | ⟨hne, hp'⟩
              · rw [List.getElem?_set_self hjl] at hq
                cases hq
                exact ⟨hc.2, hk, hv⟩
              · rw [List.getElem?_set_ne (by omega)] at hq
                exact hmm.2 t p q hp' hq
          · show z.h.setIfInBounds _ _ = _; rw [hh]
      · cases h
    · cases h
  · cases h
theorem erase_toList (es : Array MapEntry) (j : Nat) : (es.eraseIdxIfInBounds j).toList = es.toList.eraseIdx j := by
  unfold Array.eraseIdxIfInBounds
  split
  · exact Array.toList_eraseIdx
  · rename_i h
    rw [List.eraseIdx_of_length_le (by simpa using h)]
theorem mdel_sound (hG : Good C N z) (hh : z.h = w.heap) {t : TypeId} {ek : EK} {e : TypeId} (ht : mapT C.P t = some (ek, e)) {x key : AV} {xv kv : Value} (hx : R C.P N z x xv) (hk : R C.P N z key kv) (u ty : TypeId) {m' : Mem}
    (h : mdelAt z.m ek x key = some m') : OpRes C N z m' .undef w ((do pure (.value (← Builtin.delete_ #[t, u] ty #[xv, kv])) : Sem Next).run C.P w) := by
  obtain ⟨k, d, h1, h2, h3, hKT⟩ := mapT_eq ht
  unfold mdelAt at h
  split at h
  · rename_i id
    split at h
    · rename_i kvs ek' hb
      split at h
      · rename_i hc
        obtain rfl := EK.same_eq hc.1
        obtain ⟨hid, rfl⟩ := R_mp.1 hx
        obtain ⟨es, clock, h4, h5⟩ := hG.mp id kvs ek hb
        have h4' := h4
        rw [hh] at h4
        obtain ⟨kvs', h6, h7⟩ := Option.map_eq_some_iff.1 h
        unfold mdelL at h6
        obtain ⟨r, h6, h8⟩ := Option.map_eq_some_iff.1 h6
        have hf := mfind_perm (w := w) h3 hKT hc.2 hk h5 h6
        subst h7
        cases r with
        | none =>
          replace hf : FindK C w k d kv es.toList 0 none := hf
          simp only at h8
          subst h8
          refine ⟨.tuple #[], { w with heap := w.heap.setIfInBounds (z.ρ id) (.map es clock) }, z.putM id (.mp kvs ek) (.map es clock), .inl ?_, R_undef _,
            putM_good hG hb _ h5, putM_tr hG hb _ _ _, ?_, rfl, ⟨rfl, rfl, rfl⟩⟩
          · simp [Builtin.delete_, run_underlying h1, run_getObj_map h4, run_checkKey_ek h3 hKT h2 hc.2 hk, run_findKeyK h2 hf, run_setObj_map _ h4, Result.andThen]
          · show z.h.setIfInBounds _ _ = _; rw [hh]
        | some jv =>
          obtain ⟨j, v1⟩ := jv
          obtain ⟨es', i, f, hp, hn, hmm, _, _, h10, h11, _, hpe⟩ := hf
          simp only at h8
          subst h8
          refine ⟨.tuple #[], { w with heap := w.heap.setIfInBounds (z.ρ id) (.map (es.eraseIdxIfInBounds i) clock) }, z.putM id (.mp (kvs.eraseIdx j) ek) (.map (es.eraseIdxIfInBounds i) clock), .inl ?_, R_undef _,
            putM_good hG hb _ ?_, putM_tr hG hb _ _ _, ?_, rfl, ⟨rfl, rfl, rfl⟩⟩
          · simp [Builtin.delete_, run_underlying h1, run_getObj_map h4, run_checkKey_ek h3 hKT h2 hc.2 hk, run_findKeyK h2 h11, run_setObj_map _ h4, Result.andThen]
          · rw [erase_toList]
            refine ⟨es'.eraseIdx j, hpe, fun hN => by obtain ⟨rfl, rfl⟩ := hn hN; rfl, ⟨by rw [List.length_eraseIdx, List.length_eraseIdx, hmm.1.1], fun q hq => hmm.1.2.1 q ((List.eraseIdx_sublist _ _).subset hq), ((List.eraseIdx_sublist _ _).map _).nodup hmm.1.2.2⟩, fun t p q hp' hq => ?_⟩
            rw [List.getElem?_eraseIdx] at hp' hq
            split at hp'
            · rename_i hi
              rw [if_pos hi] at hq
              exact hmm.2 t p q hp' hq
            · rename_i hi
              rw [if_neg hi] at hq
              exact hmm.2 (t + 1) p q hp' hq
          · show z.h.setIfInBounds _ _ = _; rw [hh]
      · cases h
    · cases h
  · cases h
theorem mlen_sound (hG : Good C N z) (hh : z.h = w.heap) {t k e : TypeId} (ht : C.P.underlying t = some (.map k e)) (ty : TypeId) {x v : AV} {xv : Value} (hx : R C.P N z x xv) (h : mlenAt z.m x = some v) :
    ∃ v', (Builtin.len_ #[t] ty #[xv]).run C.P w = .ok v' w ∧ R C.P N z v v' := by
  unfold mlenAt at h
  split at h
  · rename_i id
    split at h
    · rename_i kvs ek hb
      cases h
      obtain ⟨hid, rfl⟩ := R_mp.1 hx
      obtain ⟨es, clock, h4, h5⟩ := hG.mp id kvs ek hb
      rw [hh] at h4
      refine ⟨.int .i64 es.size, by simp [Builtin.len_, run_underlying ht, run_getObj_map h4, goInt, Result.andThen], R_int.2 ?_⟩
      obtain ⟨es', hp, _, hmm⟩ := h5
      have h9 := hmm.1.1
      have h10 := hp.length_eq
      simp at h10
      rw [h9, h10]
    · cases h
  · cases h
    obtain rfl := R_nilm.1 hx
    exact ⟨.int .i64 0, by simp [Builtin.len_, run_underlying ht, goInt], R_int.2 rfl⟩
  · cases h
theorem cap_sound {t e : TypeId} (ht : C.P.underlying t = some (.slice e)) (ty : TypeId) {x v : AV} {xv : Value} (hx : R C.P N z x xv) (h : capAt x = some v) :
    ∃ v', (Builtin.cap_ #[t] ty #[xv]).run C.P w = .ok v' w ∧ R C.P N z v v' := by
  unfold capAt at h
  split at h
  · cases h
    obtain ⟨a, cap, st, rfl, _, _, _, _, _, htk⟩ := R_sl.1 hx
    have hc : cap = _ := htk
    subst hc
    exact ⟨.int .i64 _, by simp [Builtin.cap_, run_underlying ht, goInt], R_int.2 rfl⟩
  · cases h
end
end Go.Ab
end

section
/-
  One operation that calls nothing: the run gives what the abstract machine gives.
-/
namespace Go.Ab
section
variable {C : Cx} {N : Nat → Nat → Prop} {z : Z} {w : World}

theorem mapX_sound (hG : Good C N z) {s : St} {a : Act} (he : EnvOK C N z s.env a) {l : List Operand} {ss : List Src} (h : l.mapM (trX C.G) = some ss) : RL (R C.P N z) (ss.map s.ev) (l.map a.eval) := by
  obtain ⟨h1, h2⟩ := mapM_RL' (S := fun sx x => trX C.G x = some sx) (fun _ _ h => h) h
  refine ⟨by simp [h1], fun i b u h3 h4 => ?_⟩
  simp only [List.getElem?_map, Option.map_eq_some_iff] at h3 h4
  obtain ⟨sx, h5, rfl⟩ := h3
  obtain ⟨x, h6, rfl⟩ := h4
  exact trX_sound hG he (h2 i sx x h5 h6)
theorem OB_of (hG : Good C N z) {s : St} {a : Act} (he : EnvOK C N z s.env a) {lo : Option Operand} {sl : Option Src} (h : (match lo with | some o => (trX C.G o).map some | none => some none) = some sl) :
    OB C N z (sl.map s.ev) (lo.map a.eval) := by
  cases lo with
  | none => simp at h; subst h; exact .inl ⟨rfl, rfl⟩
  | some o =>
    simp only [Option.map_eq_some_iff] at h
    obtain ⟨sx, h1, rfl⟩ := h
    exact .inr ⟨_, _, rfl, rfl, trX_sound hG he h1⟩

def vN (s : Sem Value) : Sem Next := do pure (.value (← s))
theorem vN_ok {P : Program} {s : Sem Value} {v : Value} {w w' : World} (h : s.run P w = .ok v w') : (vN s).run P w = .ok (.value v) w' := by
  unfold vN; rw [Sem.run_bind, h]; rfl

theorem litOp_sound (hG : Good C N z) (hh : z.h = w.heap) {s : St} (hm : z.m = s.mem) {a : Act} (he : EnvOK C N z s.env a) {t e : TypeId} (hu : C.P.underlying t = some (.slice e)) {sz : Nat} (h1 : sizeT C.P e = some sz) {z0 : AV} (h0 : zeroT C.P e = some z0)
    {n : Nat} {parts : Array (Nat × Operand)} (hc1 : parts.toList.map (·.1) = List.range n) (hc2 : sz ≠ 0) (hc3 : n * sz ≤ 16777216) {xs : List Src} (h2 : parts.toList.mapM (fun p => trX C.G p.2) = some xs) {ow : Bool}
    {v : AV} {m' : Mem} (h : op1 s (.lit (ow && n != 0) e sz xs) = some (v, m')) : OpRes C N z m' v w ((vN (Instr.buildSlice t n (parts.map fun (i, x) => (i, a.eval x)))).run C.P w) := by
  have hn : parts.toList.length = n := by have := congrArg List.length hc1; simpa using this
  obtain ⟨g1, g2⟩ := mapM_RL' (S := fun sx (p : Nat × Operand) => trX C.G p.2 = some sx) (fun _ _ h => h) h2
  have hxl : xs.length = n := by omega
  simp only [op1] at h
  split at h
  · rename_i hall
    rw [List.all_eq_true] at hall
    have hr : ∀ (i : Nat) e v, (xs.map s.ev)[i]? = some e → (parts.toList.map fun p => a.eval p.2)[i]? = some v → R C.P N z e v ∧ e.solids = true ∧ e.cells.length = sz := by
      intro i e v h3 h4
      simp only [List.getElem?_map, Option.map_eq_some_iff] at h3 h4
      obtain ⟨sx, h5, rfl⟩ := h3
      obtain ⟨x, h6, rfl⟩ := h4
      have := hall sx (List.mem_of_getElem? h5)
      simp only [Bool.and_eq_true, beq_iff_eq] at this
      exact ⟨trX_sound hG he (g2 i sx x h5 h6), this.2, this.1⟩
    obtain ⟨cs, e1, e2, e3⟩ := lit_sound (w := w) hu h1 (parts := parts.map fun (i, x) => (i, a.eval x)) (vs := parts.toList.map fun p => a.eval p.2) (es := xs.map s.ev) (n := n) (by
      rw [Array.toList_map, ← hc1, List.zip_map']) (by simpa using hn) (by simpa using hxl) hc3 hc2 (fun _ => ⟨z0, h0⟩) hr
    split at h
    · simp only [Option.some.injEq, Prod.mk.injEq] at h
      obtain ⟨rfl, rfl⟩ := h
      have hlen : (xs.map s.ev).length = n := by simpa using hxl
      have hmax : n ≤ maxLen := by
        have : n ≤ n * sz := Nat.le_mul_of_pos_right _ (Nat.pos_of_ne_zero hc2)
        simp only [maxLen]; omega
      rw [← hm]
      refine ⟨_, w.alloc (.cells cs e), z.grow (.cells cs e (0, 0)) (.live (xs.map s.ev) sz), .inl (vN_ok e1), ?_, grow_good hG (fun es sz' hk => ?_) (fun _ _ _ _ _ _ hk => by cases hk), grow_tr hG _ _, ?_, rfl, ⟨rfl, rfl, rfl⟩⟩
      · refine R_ref.2 ⟨by simp [Z.grow], ⟨_, _, _, rfl⟩, fun es sz' hb => ?_⟩
        rcases get_snoc hb with ⟨_, hi2⟩ | ⟨_, hk⟩
        · omega
        · cases hk
          refine ⟨n, by simp [Z.grow, hh, hxl], by omega, by omega, ?_⟩
          unfold csize; simp [Z.grow, e2]
      · cases hk
        exact ⟨cs, e, rfl, by rw [e2, hlen]; exact Nat.le_refl _, e3⟩
      · show z.h.push _ = _; rw [hh]; rfl
    · simp only [Option.some.injEq, Prod.mk.injEq] at h
      obtain ⟨rfl, rfl⟩ := h
      have hlen : (xs.map s.ev).length = n := by simpa using hxl
      have hmax : n ≤ maxLen := by
        have : n ≤ n * sz := Nat.le_mul_of_pos_right _ (Nat.pos_of_ne_zero hc2)
        simp only [maxLen]; omega
      have hr := new_sl (T := e) (cap := n) hG (es := xs.map s.ev) (by omega) hmax hlen.symm e3
      rw [hlen] at hr
      rw [← hh] at e1
      exact ⟨_, w.alloc (.cells cs e), _, .inl (vN_ok e1), hr, good_push _ hG, tr_push z _ hG, by show z.h.push _ = _; rw [hh]; rfl, hm, ⟨rfl, rfl, rfl⟩⟩
  · cases h

theorem app_sound (hG : Good C N z) (hh : z.h = w.heap) {t e : TypeId} (ht : C.P.underlying t = some (.slice e)) {i : TypeInfo} (hi : C.P.info? e = some i) {z0 : AV} (hz0 : zeroT C.P e = some z0) (hzl : z0.cells.length = i.size)
    (hzs : z0.solids = true) (hsz : i.size ≠ 0) (ty : TypeId) {s : St} {ss sx : Src} {sv xv : Value} (hs : R C.P N z (s.ev ss) sv) (hx : R C.P N z (s.ev sx) xv) (hm : z.m = s.mem) {f0 : Bool} {ops : Array Oper} {ow : Bool} {ao : AOp}
    (hao : onto0 f0 ops (.app ow ss sx e i.size i.bytes) = ao) {v : AV} {m' : Mem} (h : op1 s ao = some (v, m')) :
    OpRes C N z m' v w ((vN (Builtin.append_ #[t, t] ty #[sv, xv])).run C.P w) := by
  have h0 : op1 s (.app0 ss sx e i.size i.bytes) = some (v, m') → OpRes C N z m' v w ((vN (Builtin.append_ #[t, t] ty #[sv, xv])).run C.P w) := by
    intro h
    simp only [op1] at h
    rw [← hm] at h
    exact append0_sound hG hh ht hi hz0 hzl hzs ty hs hx h
  have h1 : ∀ ow, op1 s (.app ow ss sx e i.size i.bytes) = some (v, m') → OpRes C N z m' v w ((vN (Builtin.append_ #[t, t] ty #[sv, xv])).run C.P w) := by
    intro ow h
    simp only [op1] at h
    rw [← hm] at h
    cases hse : s.ev ss with
    | sl es tk =>
      rw [hse] at h hs
      cases ow with
      | false => exact append_val_sound hG hh ht hi hz0 hzl hzs ty hs hx rfl h
      | true =>
        simp only [appendAt] at h
        split at h
        · cases h
        · rename_i ys hys
          split at h
          · cases h
          · rename_i hd
            split at h
            · rename_i hc
              simp only [if_true] at h
              split at h
              · split at h
                · rename_i hne
                  refine append0_sound hG hh ht hi hz0 hzl hzs ty hs hx ?_
                  simp only [append0, hys]
                  rw [if_neg (fun q => q.2 hne), if_pos hne]
                  exact h
                · rename_i hne
                  refine append0_sound hG hh ht hi hz0 hzl hzs ty hs hx ?_
                  simp only [append0, hys]
                  rw [if_pos ⟨⟨by simpa using hc.1, by simpa using hd⟩, hne⟩]
                  exact h
              · cases h
            · cases h
    | ref id off len => rw [hse] at h hs; exact appendOwn_sound hG hh ht hi hz0 hzl hzs hsz ty hs hx rfl h
    | _ =>
      rw [hse] at h
      simp only [appendAt] at h
      split at h
      · cases h
      · split at h
        · cases h
        · cases h
  unfold onto0 at hao
  split at hao
  · rename_i heq
    cases heq
    split at hao
    · subst hao; exact h0 h
    · subst hao; exact h1 _ h
  · rename_i heq
    cases heq
    split at hao
    · subst hao; exact h0 h
    · subst hao; exact h1 _ h
  · subst hao; exact h1 _ h

theorem equalIn_map_nil {P : Program} (w : World) (d : Nat) {t k e : TypeId} (a : Option Nat) (h : P.underlying t = some (.map k e)) : (Op.equalIn (d + 1) t (.map a) (.map none)).run P w = .ok a.isNone w := by
  cases a <;> simp [Op.equalIn, run_underlying h]
theorem eql_map_nil {P : Program} (w : World) {t k e : TypeId} (x y : Operand) (a : Option Nat) (h : P.underlying t = some (.map k e)) : (do eqGuard .eql t x y (.map a) (.map none); Go.binOp .eql t (.map a) (.map none) : Sem Value).run P w = .ok (.bool a.isNone) w := by
  have hgd : (eqGuard .eql t x y (.map a) (.map none)).run P w = .ok () w := by simp [eqGuard]
  rw [Sem.run_bind, hgd]
  simp only [Result.andThen, Go.binOp]
  simp [Op.equal, Op.maxDepth, equalIn_map_nil w 9999 a h]

theorem op1_sound (hG : Good C N z) (hh : z.h = w.heap) {s : St} (hm : z.m = s.mem) {a : Act} (he : EnvOK C N z s.env a) {o : Oper} {ow : Ow} {ops : Array Oper} {ao : AOp} (htr : (trOp C.P C.G ow o.op).map (onto0 ow.f0 ops) = some ao)
    {v : AV} {m' : Mem} (h : op1 s ao = some (v, m')) : OpRes C N z m' v w ((execOp a.eval o).run C.P w) := by
  obtain ⟨ao0, htr, hao⟩ := Option.map_eq_some_iff.1 htr
  have hx : ∀ {x : Operand} {sx : Src}, trX C.G x = some sx → R C.P N z (s.ev sx) (a.eval x) := fun h => trX_sound hG he h
  have val : ∀ {v : AV} {v' : Value} {r : Result Next}, r = .ok (.value v') w → R C.P N z v v' → OpRes C N z s.mem v w r := fun hr hv => by rw [← hm]; exact OpRes.val hG hh hr hv
  unfold execOp
  cases hop : o.op with
  | move x =>
    rw [hop] at htr
    simp only [trOp, Option.map_eq_some_iff] at htr
    obtain ⟨sx, h1, rfl⟩ := htr
    subst hao
    simp only [onto0, op1, Option.some.injEq, Prod.mk.injEq] at h
    obtain ⟨rfl, rfl⟩ := h
    exact val rfl (hx h1)
  | assign x =>
    rw [hop] at htr
    simp only [trOp, Option.map_eq_some_iff] at htr
    obtain ⟨sx, h1, rfl⟩ := htr
    subst hao
    simp only [onto0, op1, Option.some.injEq, Prod.mk.injEq] at h
    obtain ⟨rfl, rfl⟩ := h
    exact val rfl (hx h1)
  | pick c x y =>
    rw [hop] at htr
    simp only [trOp, bind, Option.bind_eq_some_iff, pure, Option.some.injEq] at htr
    obtain ⟨sc, h1, sx, h2, sy, h3, rfl⟩ := htr
    subst hao
    simp only [onto0, op1] at h
    split at h
    · rename_i t hc
      simp only [Option.some.injEq, Prod.mk.injEq] at h
      obtain ⟨rfl, rfl⟩ := h
      have hcv := hx h1
      rw [hc] at hcv
      refine val (v' := if t then a.eval x else a.eval y) (by simp [asBool, R_of_bool hcv]) ?_
      cases t
      · exact hx h3
      · exact hx h2
    · cases h
  | alloc e =>
    rw [hop] at htr
    simp only [trOp, bind, Option.bind_eq_some_iff, pure, Option.some.injEq] at htr
    obtain ⟨z0, h1, n, h2, rfl⟩ := htr
    subst hao
    simp only [onto0, op1] at h
    split at h
    · rename_i hc
      simp only [Option.some.injEq, Prod.mk.injEq] at h
      obtain ⟨rfl, rfl⟩ := h
      rw [← hm]
      exact alloc_sound hG hh h1 hc.2 hc.1
    · cases h
  | box e x =>
    rw [hop] at htr
    simp only [trOp, bind, Option.bind_eq_some_iff, pure, Option.some.injEq] at htr
    obtain ⟨sx, h1, n, h2, rfl⟩ := htr
    by_cases hfz : ow.fz.contains 2000000 = true
    · rw [if_pos hfz] at hao
      subst hao
      simp only [onto0, op1] at h
      split at h
      · rename_i hc
        simp only [Option.some.injEq, Prod.mk.injEq] at h
        obtain ⟨rfl, rfl⟩ := h
        rw [← hm]
        exact boxf_sound hG hh (hx h1) hc.2 rfl
      · cases h
    · rw [if_neg hfz] at hao
      subst hao
      simp only [onto0, op1] at h
      split at h
      · rename_i hc
        simp only [Option.some.injEq, Prod.mk.injEq] at h
        obtain ⟨rfl, rfl⟩ := h
        rw [← hm]
        exact box_sound hG hh (hx h1) hc.2 hc.1 rfl
      · cases h
  | build t parts =>
    rw [hop] at htr
    simp only [trOp, bind, Option.bind_eq_some_iff] at htr
    obtain ⟨z0, h1, htr⟩ := htr
    split at htr
    · rename_i hs
      simp only [Option.bind_eq_some_iff, pure, Option.some.injEq] at htr
      obtain ⟨ap, h2, rfl⟩ := htr
      subst hao
      simp only [onto0, op1, Option.map_eq_some_iff] at h
      obtain ⟨cs, h3, h4⟩ := h
      cases h4
      obtain ⟨v', h5, h6⟩ := build_sound (w := w) h1 h2 hG he h3 hs
      exact val (by simp [h5]) h6
    · cases htr
  | buildSlice t n parts =>
    rw [hop] at htr
    simp only [trOp] at htr
    split at htr
    · rename_i e hu
      simp only [bind, Option.bind_eq_some_iff] at htr
      obtain ⟨sz, h1, z0, h0, htr⟩ := htr
      split at htr
      · rename_i hc
        obtain ⟨hc1, hc2, hc3⟩ := hc
        simp only [Option.bind_eq_some_iff, pure, Option.some.injEq] at htr
        obtain ⟨xs, h2, rfl⟩ := htr
        subst hao
        simp only [onto0] at h
        exact litOp_sound hG hh hm he hu h1 h0 hc1 hc2 hc3 h2 h
      · cases htr
    · cases htr
  | load t x =>
    rw [hop] at htr
    simp only [trOp, bind, Option.bind_eq_some_iff, pure, Option.some.injEq] at htr
    obtain ⟨sx, h1, sz, h2, rfl⟩ := htr
    subst hao
    simp only [onto0, op1, Option.map_eq_some_iff] at h
    obtain ⟨b, h3, h4⟩ := h
    cases h4
    rw [← hm] at h3
    obtain ⟨v', h5, h6⟩ := load_sound (w := w) hG hh h2 (hx h1) h3
    exact val (by simp [h5]) h6
  | store t x y =>
    rw [hop] at htr
    simp only [trOp, bind, Option.bind_eq_some_iff, pure, Option.some.injEq] at htr
    obtain ⟨sx, h1, sy, h2, n, h3, rfl⟩ := htr
    subst hao
    simp only [onto0, op1, Option.map_eq_some_iff] at h
    obtain ⟨b, h4, h5⟩ := h
    cases h5
    rw [← hm] at h4
    exact store_sound hG hh h3 (hx h1) (hx h2) h4
  | binOp op t x y yt =>
    rw [hop] at htr
    simp only [trOp] at htr
    show OpRes C N z m' v w ((vN (do eqGuard op t x y (a.eval x) (a.eval y); Go.binOp op t (a.eval x) (a.eval y))).run C.P w)
    have eqv : ∀ (ng : Bool) (opr : BinOp), (opr = if ng then .neq else .eql) → op = opr → C.P.eqGuardType C.P.depth t = false → ∀ ts sx sy, flatEq C.P 6 t = some ts → trX C.G x = some sx → trX C.G y = some sy → ao = .eqv ng (isStruct C.P t) ts sx sy →
        (C.P.underlying t = some .bool ∨ isStruct C.P t = true) →
        OpRes C N z m' v w ((vN (do eqGuard op t x y (a.eval x) (a.eval y); Go.binOp op t (a.eval x) (a.eval y))).run C.P w) := by
      intro ng opr hop' hopr hg ts sx sy hts h1 h2 hao' hu
      subst hao'
      simp only [op1, Option.map_eq_some_iff] at h
      obtain ⟨b, h3, h4⟩ := h
      cases h4
      obtain ⟨h5, h6⟩ := eqv_sound (w := w) hts hg (hx h1) (hx h2) h3 x y op
      have hne : (∃ p q, a.eval x = .bool p ∧ a.eval y = .bool q) ∨ (∃ p q, a.eval x = .agg p ∧ a.eval y = .agg q) := by
        rcases hu with hu | hst
        · left
          have hst : isStruct C.P t = false := by simp [isStruct, hu]
          rw [hst] at h3
          simp only [eqAV, Bool.false_eq_true, if_false] at h3
          have : ts = [.b] := by
            simp only [flatEq, hu] at hts
            split at hts
            · cases hts; rfl
            · cases hts
          subst this
          simp only [eqs, Option.bind_eq_some_iff] at h3
          obtain ⟨q, h3, _⟩ := h3
          have hx1 := hx h1; have hx2 := hx h2
          generalize s.ev sx = A at h3 hx1
          generalize s.ev sy = B at h3 hx2
          cases A <;> cases B <;> simp [eq1] at h3
          exact ⟨_, _, R_of_bool hx1, R_of_bool hx2⟩
        · right
          rw [hst] at h3
          simp only [eqAV, if_true] at h3
          have hx1 := hx h1; have hx2 := hx h2
          generalize s.ev sx = A at h3 hx1
          generalize s.ev sy = B at h3 hx2
          cases A <;> cases B <;> simp at h3
          obtain ⟨us, h7, _⟩ := R_agg.1 hx1
          obtain ⟨vs, h8, _⟩ := R_agg.1 hx2
          exact ⟨_, _, h7, h8⟩
      subst hopr
      rcases hne with ⟨p, q, h7, h8⟩ | ⟨p, q, h7, h8⟩ <;> rw [h7, h8] at h5 h6 ⊢ <;> cases ng <;> simp only [Bool.false_eq_true, if_false, if_true] at hop' <;> subst hop' <;>
        exact val (vN_ok (by rw [Sem.run_bind, h6]; simp [Go.binOp, h5])) (R_bool.2 rfl)
    have bin : ∀ sx sy, trX C.G x = some sx → trX C.G y = some sy → ao = .bin op sx sy →
        OpRes C N z m' v w ((vN (do eqGuard op t x y (a.eval x) (a.eval y); Go.binOp op t (a.eval x) (a.eval y))).run C.P w) := by
      intro sx sy h1 h2 hao'
      subst hao'
      simp only [op1, Option.map_eq_some_iff] at h
      obtain ⟨b, h3, h4⟩ := h
      cases h4
      obtain ⟨v', h5, h6, h7⟩ := bin_sound (w := w) (t := t) (hx h1) (hx h2) h3
      exact val (vN_ok (by rw [Sem.run_bind, h7]; exact h5)) h6
    split at htr
    · rename_i hu
      split at htr
      · rename_i hg
        simp only [bind, Option.bind_eq_some_iff, pure, Option.some.injEq] at htr
        obtain ⟨ts, h0, sx, h1, sy, h2, rfl⟩ := htr
        exact eqv false _ rfl rfl hg ts sx sy h0 h1 h2 hao.symm (.inl hu)
      · cases htr
    · rename_i fs hu
      split at htr
      · rename_i hg
        simp only [bind, Option.bind_eq_some_iff, pure, Option.some.injEq] at htr
        obtain ⟨ts, h0, sx, h1, sy, h2, rfl⟩ := htr
        exact eqv false _ rfl rfl hg ts sx sy h0 h1 h2 hao.symm (.inr (by simp [isStruct, hu]))
      · cases htr
    · rename_i q u hu
      split at htr
      · rename_i hg
        simp only [bind, Option.bind_eq_some_iff, pure, Option.some.injEq] at htr
        obtain ⟨ts, h0, sx, h1, sy, h2, rfl⟩ := htr
        exact eqv false _ rfl rfl hg ts sx sy h0 h1 h2 hao.symm (.inr (by simp [isStruct, hu]))
      · cases htr
    · rename_i hu
      split at htr
      · rename_i hg
        simp only [bind, Option.bind_eq_some_iff, pure, Option.some.injEq] at htr
        obtain ⟨ts, h0, sx, h1, sy, h2, rfl⟩ := htr
        exact eqv true _ rfl rfl hg ts sx sy h0 h1 h2 hao.symm (.inl hu)
      · cases htr
    · rename_i fs hu
      split at htr
      · rename_i hg
        simp only [bind, Option.bind_eq_some_iff, pure, Option.some.injEq] at htr
        obtain ⟨ts, h0, sx, h1, sy, h2, rfl⟩ := htr
        exact eqv true _ rfl rfl hg ts sx sy h0 h1 h2 hao.symm (.inr (by simp [isStruct, hu]))
      · cases htr
    · rename_i q u hu
      split at htr
      · rename_i hg
        simp only [bind, Option.bind_eq_some_iff, pure, Option.some.injEq] at htr
        obtain ⟨ts, h0, sx, h1, sy, h2, rfl⟩ := htr
        exact eqv true _ rfl rfl hg ts sx sy h0 h1 h2 hao.symm (.inr (by simp [isStruct, hu]))
      · cases htr
    · simp only [bind, Option.bind_eq_some_iff, pure, Option.some.injEq] at htr
      obtain ⟨sx, h1, sy, h2, rfl⟩ := htr
      exact bin sx sy h1 h2 hao.symm
    · simp only [bind, Option.bind_eq_some_iff, pure, Option.some.injEq] at htr
      obtain ⟨sx, h1, sy, h2, rfl⟩ := htr
      exact bin sx sy h1 h2 hao.symm
    · rename_i mk me hu
      split at htr
      · obtain ⟨sx, h1, rfl⟩ := Option.map_eq_some_iff.1 htr
        subst hao
        simp only [onto0, op1, Option.map_eq_some_iff] at h
        obtain ⟨b, h3, h4⟩ := h
        cases h4
        have hxv := hx h1
        unfold mnilAt at h3
        split at h3
        · rename_i he'
          cases h3
          rw [he'] at hxv
          exact val (vN_ok (by rw [R_nilm.1 hxv]; exact eql_map_nil w _ _ none hu)) (R_bool.2 rfl)
        · rename_i id he'
          cases h3
          rw [he'] at hxv
          exact val (vN_ok (by rw [(R_mp.1 hxv).2]; exact eql_map_nil w _ _ (some _) hu)) (R_bool.2 rfl)
        · cases h3
      · cases htr
    · cases htr
  | unOp op t x =>
    rw [hop] at htr
    simp only [trOp] at htr
    show OpRes C N z m' v w ((do pure (.value (← Op.unary op (a.eval x))) : Sem Next).run C.P w)
    split at htr
    · obtain ⟨sx, h1, rfl⟩ := Option.map_eq_some_iff.1 htr
      subst hao
      simp only [onto0, op1] at h
      split at h
      · rename_i b hb
        cases h
        have hv := hx h1
        rw [hb] at hv
        exact val (by rw [R_of_bool hv]; rfl) (R_bool.2 rfl)
      · cases h
    · obtain ⟨sx, h1, rfl⟩ := Option.map_eq_some_iff.1 htr
      subst hao
      simp only [onto0, op1] at h
      split at h
      · rename_i k n hb
        cases h
        have hv := hx h1
        rw [hb] at hv
        exact val (by rw [R_of_int hv]; rfl) (R_int.2 rfl)
      · cases h
    · obtain ⟨sx, h1, rfl⟩ := Option.map_eq_some_iff.1 htr
      subst hao
      simp only [onto0, op1] at h
      split at h
      · rename_i k n hb
        cases h
        have hv := hx h1
        rw [hb] at hv
        exact val (by rw [R_of_int hv]; rfl) (R_int.2 rfl)
      · cases h
    · cases htr
  | convert src dst x =>
    rw [hop] at htr
    simp only [trOp] at htr
    show OpRes C N z m' v w ((do pure (.value (← convert src dst (a.eval x))) : Sem Next).run C.P w)
    split at htr
    · rename_i q k hs hd
      obtain ⟨sx, h1, rfl⟩ := Option.map_eq_some_iff.1 htr
      subst hao
      simp only [onto0, op1] at h
      split at h
      · rename_i k' n hb
        cases h
        have hv := hx h1
        rw [hb] at hv
        exact val (by rw [R_of_int hv]; simp [conv_sound hs hd]) (R_int.2 rfl)
      · cases h
    · cases htr
  | makeFunc fn first cap =>
    rw [hop] at htr
    show OpRes C N z m' v w ((do pure (.value (← Instr.makeFunc fn (first.map a.eval) (cap.map a.eval))) : Sem Next).run C.P w)
    cases fn with
    | func f =>
      simp only [trOp, bind, Option.bind_eq_some_iff, pure, Option.some.injEq] at htr
      obtain ⟨fs, h1, cs, h2, rfl⟩ := htr
      subst hao
      simp only [onto0, op1, Option.some.injEq, Prod.mk.injEq] at h
      obtain ⟨rfl, rfl⟩ := h
      refine val (by rfl) (R_fn.2 ⟨_, _, rfl, ?_, ?_⟩)
      · rw [Array.toList_map]; exact mapX_sound hG he h1
      · rw [Array.toList_map]; exact mapX_sound hG he h2
    | _ => cases htr
  | makeSlice t l c =>
    rw [hop] at htr
    simp only [trOp] at htr
    show OpRes C N z m' v w ((do pure (.value (← Instr.makeSlice t (a.eval l) (a.eval c))) : Sem Next).run C.P w)
    split at htr
    · rename_i e hu
      simp only [bind, Option.bind_eq_some_iff] at htr
      obtain ⟨i, hi, htr⟩ := htr
      split at htr
      · cases htr
      · simp only [Option.bind_eq_some_iff, pure, Option.some.injEq] at htr
        obtain ⟨z0, h1, sl, h2, sc, h3, rfl⟩ := htr
        subst hao
        simp only [onto0, op1] at h
        rw [← hm] at h
        exact make_sound hG hh hu hi h1 (hx h2) (hx h3) h
    · cases htr
  | slice t x lo hi mx =>
    rw [hop] at htr
    show OpRes C N z m' v w ((do pure (.value (← Instr.sliceAt t (a.eval x) (lo.map a.eval) (hi.map a.eval) (mx.map a.eval))) : Sem Next).run C.P w)
    cases mx with
    | some _ => cases htr
    | none =>
      simp only [trOp] at htr
      split at htr
      · rename_i e hu
        simp only [bind, Option.bind_eq_some_iff, pure, Option.some.injEq] at htr
        obtain ⟨l, h1, q, h2, sx, h3, sz, h4, rfl⟩ := htr
        subst hao
        simp only [onto0, op1, Option.map_eq_some_iff] at h
        obtain ⟨b, h5, h6⟩ := h
        cases h6
        rw [← hm] at h5
        obtain ⟨v', h7, h8⟩ := slice_sound (w := w) hu h4 (hx h3) (OB_of hG he h1) (OB_of hG he h2) h5
        exact val (by simp [h7]) h8
      · rename_i hu
        simp only [bind, Option.bind_eq_some_iff, pure, Option.some.injEq] at htr
        obtain ⟨l, h1, q, h2, sx, h3, rfl⟩ := htr
        subst hao
        simp only [onto0, op1, Option.map_eq_some_iff] at h
        obtain ⟨b, h5, h6⟩ := h
        cases h6
        obtain ⟨v', h7, h8⟩ := sliceStr_sound (w := w) hu (hx h3) (OB_of hG he h1) (OB_of hG he h2) h5
        exact val (by simp [h7]) h8
      · rename_i n e hu
        simp only [bind, Option.bind_eq_some_iff] at htr
        obtain ⟨l, h1, q, h2, sx, h3, htr⟩ := htr
        split at htr
        · rename_i hs1
          simp only [pure, Option.some.injEq] at htr
          subst htr
          split at hao
          · rename_i hfl
            simp only [Bool.and_eq_true, Option.isNone_iff_eq_none] at hfl
            obtain ⟨⟨_, rfl⟩, rfl⟩ := hfl
            subst hao
            simp only [onto0, op1, Option.map_eq_some_iff] at h
            obtain ⟨b, h5, h6⟩ := h
            cases h6
            rw [← hm] at h5
            obtain ⟨v', h7, h8⟩ := aps_sound (w := w) hu hs1 (hx h3) (OB_of hG he h1) (OB_of hG he h2) h5
            exact val (by simp [h7]) h8
          subst hao
          simp only [onto0, op1, Option.map_eq_some_iff] at h
          obtain ⟨b, h5, h6⟩ := h
          cases h6
          obtain ⟨v', h7, h8⟩ := aslice_sound (w := w) hu hs1 (hx h3) (OB_of hG he h1) (OB_of hG he h2) h5
          exact val (by simp [h7]) h8
        · cases htr
      · cases htr
  | fieldAddr t x f =>
    rw [hop] at htr
    simp only [trOp, bind, Option.bind_eq_some_iff] at htr
    show OpRes C N z m' v w ((do pure (.value (← Instr.fieldAt t (a.eval x) f)) : Sem Next).run C.P w)
    obtain ⟨⟨off, u⟩, h1, htr⟩ := htr
    simp only [Option.bind_eq_some_iff] at htr
    obtain ⟨n, h2, htr⟩ := htr
    split at htr
    · cases htr
    · rename_i hn
      simp only [Option.bind_eq_some_iff, pure, Option.some.injEq] at htr
      obtain ⟨sx, h3, rfl⟩ := htr
      subst hao
      simp only [onto0, op1, Option.map_eq_some_iff] at h
      obtain ⟨b, h5, h6⟩ := h
      cases h6
      rw [← hm] at h5
      obtain ⟨v', h7, h8⟩ := fieldAddr_sound (w := w) h1 h2 hn (hx h3) h5
      exact val (by simp [h7]) h8
  | field t x f =>
    rw [hop] at htr
    simp only [trOp, bind, Option.bind_eq_some_iff] at htr
    show OpRes C N z m' v w ((do pure (.value (← Instr.field t (a.eval x) f)) : Sem Next).run C.P w)
    obtain ⟨⟨off, u⟩, h1, htr⟩ := htr
    simp only [Option.bind_eq_some_iff, pure, Option.some.injEq] at htr
    obtain ⟨sx, h2, sz, h3, rfl⟩ := htr
    subst hao
    simp only [onto0, op1] at h
    split at h
    · rename_i cs hc
      simp only [Option.map_eq_some_iff] at h
      obtain ⟨b, h5, h6⟩ := h
      cases h6
      have hv := hx h2
      rw [hc] at hv
      obtain ⟨v', h7, h8⟩ := fld_sound (w := w) h1 h3 hv h5
      exact val (by simp [h7]) h8
    · cases h
  | indexAddr t x i =>
    rw [hop] at htr
    simp only [trOp] at htr
    show OpRes C N z m' v w ((do pure (.value (← Instr.indexAt t (a.eval x) (a.eval i))) : Sem Next).run C.P w)
    split at htr
    · rename_i e hu
      simp only [bind, Option.bind_eq_some_iff, pure, Option.some.injEq] at htr
      obtain ⟨sx, h1, si, h2, sz, h3, rfl⟩ := htr
      subst hao
      simp only [onto0, op1, Option.map_eq_some_iff] at h
      obtain ⟨b, h5, h6⟩ := h
      cases h6
      rw [← hm] at h5
      obtain ⟨v', h7, h8⟩ := idx_sound (w := w) hu h3 (hx h1) (hx h2) h5
      exact val (by simp [h7]) h8
    · rename_i n e hu
      simp only [bind, Option.bind_eq_some_iff, pure, Option.some.injEq] at htr
      obtain ⟨sx, h1, si, h2, sz, h3, rfl⟩ := htr
      subst hao
      simp only [onto0, op1, Option.map_eq_some_iff] at h
      obtain ⟨b, h5, h6⟩ := h
      cases h6
      rw [← hm] at h5
      obtain ⟨v', h7, h8⟩ := aidx_sound (w := w) hu h3 (hx h1) (hx h2) h5
      exact val (by simp [h7]) h8
    · cases htr
  | index t x i =>
    rw [hop] at htr
    simp only [trOp] at htr
    show OpRes C N z m' v w ((do pure (.value (← Instr.index t (a.eval x) (a.eval i))) : Sem Next).run C.P w)
    split at htr
    · rename_i hu
      simp only [bind, Option.bind_eq_some_iff, pure, Option.some.injEq] at htr
      obtain ⟨sx, h1, si, h2, rfl⟩ := htr
      subst hao
      simp only [onto0, op1] at h
      split at h
      · rename_i b k n hb hi
        split at h
        · rename_i hn
          simp only [Option.map_eq_some_iff] at h
          obtain ⟨c, h5, h6⟩ := h
          cases h6
          have hv := hx h1
          have hw := hx h2
          rw [hb] at hv
          rw [hi] at hw
          exact val (by rw [R_of_str hv, R_of_int hw]; simp [Instr.index, asIntOf, run_underlying hu, hn, h5]) (R_int.2 rfl)
        · cases h
      · cases h
    · rename_i n e hu
      simp only [bind, Option.bind_eq_some_iff, pure, Option.some.injEq] at htr
      obtain ⟨sx, h1, si, h2, sz, h3, ld, h4, rfl⟩ := htr
      subst hao
      simp only [onto0, op1, Option.map_eq_some_iff] at h
      obtain ⟨b, h5, h6⟩ := h
      cases h6
      obtain ⟨v', h7, h8⟩ := vidx_sound (w := w) hu h3 h4 (hx h1) (hx h2) h5
      exact val (by simp [h7]) h8
    · cases htr
  | extract x i =>
    rw [hop] at htr
    simp only [trOp, bind, Option.bind_eq_some_iff, pure, Option.some.injEq] at htr
    show OpRes C N z m' v w ((do pure (.value (← Instr.extract (a.eval x) i)) : Sem Next).run C.P w)
    obtain ⟨sx, h1, rfl⟩ := htr
    subst hao
    simp only [onto0, op1] at h
    split at h
    · rename_i vs hb
      simp only [Option.map_eq_some_iff] at h
      obtain ⟨c, h5, h6⟩ := h
      cases h6
      have hv := hx h1
      rw [hb] at hv
      obtain ⟨us, h7, h8⟩ := R_tup.1 hv
      obtain ⟨u, h9, h10⟩ := RL_get h8 h5
      rw [Array.getElem?_toList] at h9
      exact val (by rw [h7]; simp [Instr.extract, h9]) h10
    · cases h
  | call c =>
    rw [hop] at htr
    show OpRes C N z m' v w ((do let d ← resolve a.eval c o.type; invoke d.target d.args : Sem Next).run C.P w)
    have bl : ∀ {b : Builtin} {args : List Operand} {ts : List TypeId}, c.callee = .builtin b → c.args.toList = args → c.argTypes.toList = ts →
        (do let d ← resolve a.eval c o.type; invoke d.target d.args : Sem Next) = builtin b ts.toArray o.type (c.args.map fun | .const _ => true | _ => false) (args.map a.eval).toArray := by
      intro b args ts h1 h2 h3
      subst h2; subst h3
      simp only [resolve, h1, pure_bind, invoke]
      rw [show (c.args.toList.map a.eval).toArray = c.args.map a.eval by rw [← Array.toList_map]]
      rfl
    simp only [trOp] at htr
    split at htr
    · rename_i x t h1 h2 h3
      rw [bl h1 h2 h3]
      show OpRes C N z m' v w ((vN (Builtin.len_ #[t] o.type #[a.eval x])).run C.P w)
      split at htr
      · rename_i e hu
        obtain ⟨sx, h4, rfl⟩ := Option.map_eq_some_iff.1 htr
        subst hao
        simp only [onto0, op1, Option.map_eq_some_iff] at h
        obtain ⟨b, h5, h6⟩ := h
        cases h6
        rw [← hm] at h5
        obtain ⟨v', h7, h8⟩ := len_sound (w := w) hu o.type (hx h4) h5
        exact val (vN_ok h7) h8
      · rename_i hu
        obtain ⟨sx, h4, rfl⟩ := Option.map_eq_some_iff.1 htr
        subst hao
        simp only [onto0, op1, Option.map_eq_some_iff] at h
        obtain ⟨b, h5, h6⟩ := h
        cases h6
        obtain ⟨v', h7, h8⟩ := lenStr_sound (w := w) hu o.type (hx h4) h5
        exact val (vN_ok h7) h8
      · rename_i hu
        obtain ⟨sx, h4, rfl⟩ := Option.map_eq_some_iff.1 htr
        subst hao
        simp only [onto0, op1, Option.map_eq_some_iff] at h
        obtain ⟨b, h5, h6⟩ := h
        cases h6
        rw [← hm] at h5
        obtain ⟨v', h7, h8⟩ := mlen_sound (w := w) hG hh hu o.type (hx h4) h5
        exact val (vN_ok h7) h8
      · cases htr
    · rename_i x t h1 h2 h3
      rw [bl h1 h2 h3]
      show OpRes C N z m' v w ((vN (Builtin.cap_ #[t] o.type #[a.eval x])).run C.P w)
      split at htr
      · rename_i e hu
        obtain ⟨sx, h4, rfl⟩ := Option.map_eq_some_iff.1 htr
        subst hao
        simp only [onto0, op1, Option.map_eq_some_iff] at h
        obtain ⟨b, h5, h6⟩ := h
        cases h6
        obtain ⟨v', h7, h8⟩ := cap_sound (w := w) hu o.type (hx h4) h5
        exact val (vN_ok h7) h8
      · cases htr
    · rename_i sl x t u h1 h2 h3
      rw [bl h1 h2 h3]
      show OpRes C N z m' v w ((vN (Builtin.append_ #[t, u] o.type #[a.eval sl, a.eval x])).run C.P w)
      split at htr
      · rename_i e hu
        simp only [bind, Option.bind_eq_some_iff] at htr
        obtain ⟨i, hi, htr⟩ := htr
        split at htr
        · cases htr
        · rename_i hc1
          simp only [Option.bind_eq_some_iff] at htr
          obtain ⟨z0, h4, htr⟩ := htr
          split at htr
          · cases htr
          · rename_i hz
            obtain ⟨hz1, hz2⟩ := not_or.1 hz
            have hz1 := Classical.not_not.1 hz1
            have hz2 : z0.solids = true := by simpa using hz2
            split at htr
            · rename_i hc2
              subst hc2
              simp only [Option.bind_eq_some_iff, pure, Option.some.injEq] at htr
              obtain ⟨ss, h5, sx, h6, rfl⟩ := htr
              exact app_sound hG hh hu hi h4 hz1 hz2 hc1 o.type (hx h5) (hx h6) hm hao h
            · split at htr
              · rename_i ku hku
                simp only [Option.bind_eq_some_iff, pure, Option.some.injEq] at htr
                obtain ⟨ss, h5, sx, h6, rfl⟩ := htr
                subst hao
                simp only [onto0, op1] at h
                rw [← hm] at h
                exact appz_sound hG hh hu hku hi h4 hc1 o.type (hx h5) (hx h6) h
              · cases htr
      · cases htr
    · rename_i d x t u h1 h2 h3
      rw [bl h1 h2 h3]
      show OpRes C N z m' v w ((vN (Builtin.copy_ #[t, u] o.type #[a.eval d, a.eval x])).run C.P w)
      split at htr
      · rename_i e e' hu hu'
        simp only [bind, Option.bind_eq_some_iff, pure, Option.some.injEq] at htr
        obtain ⟨sd, h4, sx, h5, sz, h6, rfl⟩ := htr
        subst hao
        simp only [onto0, op1] at h
        rw [← hm] at h
        exact copy_sound hG hh hu h6 o.type (hx h4) (hx h5) h
      · cases htr
    · rename_i x t h1 h2 h3
      rw [bl h1 h2 h3]
      show OpRes C N z m' v w ((vN (Builtin.clear_ #[t] o.type #[a.eval x])).run C.P w)
      split at htr
      · rename_i e hu
        simp only [bind, Option.bind_eq_some_iff, pure, Option.some.injEq] at htr
        obtain ⟨sx, h4, z0, h5, sz, h6, rfl⟩ := htr
        subst hao
        simp only [onto0, op1, Option.map_eq_some_iff] at h
        obtain ⟨b, h7, h8⟩ := h
        cases h8
        rw [← hm] at h7
        exact clear_sound hG hh hu h5 h6 o.type (hx h4) h7
      · cases htr
    · rename_i x y t u h1 h2 h3
      rw [bl h1 h2 h3]
      show OpRes C N z m' v w ((vN (Builtin.delete_ #[t, u] o.type #[a.eval x, a.eval y])).run C.P w)
      simp only [bind, Option.bind_eq_some_iff, pure, Option.some.injEq] at htr
      obtain ⟨⟨ek, e⟩, h4, sx, h5, sk, h6, rfl⟩ := htr
      subst hao
      simp only [onto0, op1, Option.map_eq_some_iff] at h
      obtain ⟨b, h7, h8⟩ := h
      cases h8
      rw [← hm] at h7
      exact mdel_sound hG hh h4 (hx h5) (hx h6) u o.type h7
    · rename_i x y h1 h2
      rw [bl h1 h2 rfl]
      show OpRes C N z m' v w ((vN (Builtin.min_ c.argTypes.toList.toArray o.type #[a.eval x, a.eval y])).run C.P w)
      simp only [bind, Option.bind_eq_some_iff, pure, Option.some.injEq] at htr
      obtain ⟨sx, h4, sy, h5, rfl⟩ := htr
      subst hao
      simp only [onto0, op1, Option.map_eq_some_iff] at h
      obtain ⟨b, h6, h7⟩ := h
      cases h7
      obtain ⟨v', h8, h9⟩ := mnx_sound (w := w) false c.argTypes.toList.toArray o.type (hx h4) (hx h5) h6
      exact val (vN_ok h8) h9
    · rename_i x y h1 h2
      rw [bl h1 h2 rfl]
      show OpRes C N z m' v w ((vN (Builtin.max_ c.argTypes.toList.toArray o.type #[a.eval x, a.eval y])).run C.P w)
      simp only [bind, Option.bind_eq_some_iff, pure, Option.some.injEq] at htr
      obtain ⟨sx, h4, sy, h5, rfl⟩ := htr
      subst hao
      simp only [onto0, op1, Option.map_eq_some_iff] at h
      obtain ⟨b, h6, h7⟩ := h
      cases h7
      obtain ⟨v', h8, h9⟩ := mnx_sound (w := w) true c.argTypes.toList.toArray o.type (hx h4) (hx h5) h6
      exact val (vN_ok h8) h9
    · rename_i x y xs _ h1 h2
      rw [bl h1 h2 rfl]
      show OpRes C N z m' v w ((vN (Builtin.min_ c.argTypes.toList.toArray o.type ((x :: y :: xs).map a.eval).toArray)).run C.P w)
      simp only [bind, Option.bind_eq_some_iff, pure, Option.some.injEq] at htr
      obtain ⟨sx, h4, sy, h5, rfl⟩ := htr
      subst hao
      simp only [onto0, op1, Option.map_eq_some_iff] at h
      obtain ⟨b, h6, h7⟩ := h
      cases h7
      obtain ⟨v', h8, h9⟩ := mnl_sound (w := w) false _ _ (hx h4) (mapX_sound hG he h5) h6
      exact val (vN_ok (by simpa [Builtin.min_] using h8)) h9
    · rename_i x y xs _ h1 h2
      rw [bl h1 h2 rfl]
      show OpRes C N z m' v w ((vN (Builtin.max_ c.argTypes.toList.toArray o.type ((x :: y :: xs).map a.eval).toArray)).run C.P w)
      simp only [bind, Option.bind_eq_some_iff, pure, Option.some.injEq] at htr
      obtain ⟨sx, h4, sy, h5, rfl⟩ := htr
      subst hao
      simp only [onto0, op1, Option.map_eq_some_iff] at h
      obtain ⟨b, h6, h7⟩ := h
      cases h7
      obtain ⟨v', h8, h9⟩ := mnl_sound (w := w) true _ _ (hx h4) (mapX_sound hG he h5) h6
      exact val (vN_ok (by simpa [Builtin.max_] using h8)) h9
    · simp only [bind, Option.bind_eq_some_iff, pure, Option.some.injEq] at htr
      obtain ⟨sx, h4, rfl⟩ := htr
      subst hao
      split at h <;> cases h
    · simp only [bind, Option.bind_eq_some_iff, pure, Option.some.injEq] at htr
      obtain ⟨sf, h3, sx, h4, rfl⟩ := htr
      subst hao
      split at h <;> cases h
    · cases htr
  | panic x =>
    rw [hop] at htr
    simp only [trOp, Option.some.injEq] at htr
    subst htr; subst hao
    cases h
  | makeInterface t x =>
    rw [hop] at htr
    simp only [trOp, Option.some.injEq] at htr
    subst htr; subst hao
    cases h
  | nilCheck x =>
    rw [hop] at htr
    simp only [trOp, Option.map_eq_some_iff] at htr
    obtain ⟨sx, h1, rfl⟩ := htr
    subst hao
    simp only [onto0, op1, Option.map_eq_some_iff] at h
    obtain ⟨b, h2, h3⟩ := h
    cases h3
    rw [← hm] at h2
    have hxv := hx h1
    unfold addrAt at h2
    split at h2
    · rename_i id ix off he
      split at h2
      · rename_i hl
        cases h2
        rw [he] at hxv
        obtain ⟨es, n, hb⟩ := lsz_isSome hl
        have hxv' := hxv
        obtain ⟨_, _, h4⟩ := R_ptr.1 hxv
        have h5 := h4 es n hb
        refine val (v' := a.eval x) ?_ hxv'
        simp only [h5]; rfl
      · cases h2
    · rename_i e off he
      cases h2
      rw [he] at hxv
      have hxv' := hxv
      obtain ⟨b, o, h5, _⟩ := R_pv.1 hxv
      refine val (v' := a.eval x) ?_ hxv'
      simp only [h5]; rfl
    · cases h2
  | makeMap t r =>
    rw [hop] at htr
    cases r with
    | some q => cases htr
    | none =>
      simp only [trOp, bind, Option.bind_eq_some_iff, pure, Option.some.injEq] at htr
      obtain ⟨⟨ek, e⟩, h1, rfl⟩ := htr
      subst hao
      simp only [onto0, op1, Option.some.injEq, Prod.mk.injEq] at h
      obtain ⟨rfl, rfl⟩ := h
      rw [← hm]
      exact mkmap_sound hG hh t ek
  | lookup t x key ok =>
    rw [hop] at htr
    simp only [trOp, bind, Option.bind_eq_some_iff, pure, Option.some.injEq] at htr
    obtain ⟨⟨ek, e⟩, h1, z0, h2, sx, h3, sk, h4, rfl⟩ := htr
    subst hao
    simp only [onto0, op1, Option.map_eq_some_iff] at h
    obtain ⟨b, h5, h6⟩ := h
    cases h6
    rw [← hm] at h5
    obtain ⟨v', h7, h8⟩ := mget_sound hG hh h1 h2 (hx h3) (hx h4) h5
    exact val (vN_ok h7) h8
  | mapUpdate t x key y =>
    rw [hop] at htr
    simp only [trOp, bind, Option.bind_eq_some_iff, pure, Option.some.injEq] at htr
    obtain ⟨⟨ek, e⟩, h1, sx, h3, sk, h4, sv, h5, rfl⟩ := htr
    subst hao
    simp only [onto0, op1, Option.map_eq_some_iff] at h
    obtain ⟨b, h6, h7⟩ := h
    cases h7
    rw [← hm] at h6
    exact mput_sound hG hh h1 (hx h3) (hx h4) (hx h5) h6
  | insert t x key y =>
    rw [hop] at htr
    simp only [trOp, bind, Option.bind_eq_some_iff, pure, Option.some.injEq] at htr
    obtain ⟨⟨ek, e⟩, h1, sx, h3, sk, h4, sv, h5, rfl⟩ := htr
    subst hao
    simp only [onto0, op1, Option.map_eq_some_iff] at h
    obtain ⟨b, h6, h7⟩ := h
    cases h7
    rw [← hm] at h6
    exact mput_sound hG hh h1 (hx h3) (hx h4) (hx h5) h6
  | _ =>
    rw [hop] at htr
    cases htr
end
end Go.Ab
end

section
/-
  A value as it stands, in memory that the callee doesn't own; values that lead nowhere; memory that grows.
-/
namespace Go.Ab
section
variable {C : Cx} {N N' : Nat → Nat → Prop} {z z0 : Z} {w : World}

theorem RL_map {S S' : AV → Value → Prop} {f : AV → AV} {as : List AV} {us : List Value} (h : RL S as us) (hf : ∀ a ∈ as, ∀ u, S a u → S' (f a) u) : RL S' (as.map f) us := by
  refine ⟨by simpa using h.1, fun i a u h1 h2 => ?_⟩
  simp only [List.getElem?_map, Option.map_eq_some_iff] at h1
  obtain ⟨b, h3, rfl⟩ := h1
  exact hf b (List.mem_of_getElem? h3) u (h.2 i b u h3 h2)

theorem undefd_len (a : AV) : (undefd a).cells.length = a.cells.length := by
  cases a <;> simp [undefd, AV.cells]
theorem undefd_cell {a c : AV} {j : Nat} (h : (undefd a).cells[j]? = some c) : c = .undef ∧ ∃ b, a.cells[j]? = some b := by
  cases a with
  | agg cs =>
    simp only [undefd, AV.cells, List.getElem?_map, Option.map_eq_some_iff] at h
    obtain ⟨b, h1, rfl⟩ := h
    exact ⟨rfl, b, h1⟩
  | _ =>
    simp only [undefd, AV.cells] at h ⊢
    cases j with
    | zero => simp at h; exact ⟨h.symm, by simp⟩
    | succ j => simp at h
theorem undefd_R {a : AV} {v : Value} (h : R C.P N z a v) : R C.P N' z0 (undefd a) v := by
  cases a with
  | agg cs =>
    obtain ⟨us, rfl, h1⟩ := R_agg.1 h
    exact R_agg.2 ⟨us, rfl, RL_map h1 fun a _ u _ => R_undef _⟩
  | _ => exact R_undef _

theorem snap_notAgg {m : Mem} {k : Nat} {a : AV} (h : ∀ cs, a ≠ .agg cs) : (snap m k a).cells = [snap m k a] := by
  cases k with
  | zero => cases a <;> first | rfl | exact absurd rfl (h _)
  | succ k =>
    cases a with
    | agg cs => exact absurd rfl (h _)
    | ref id off len => simp only [snap]; split <;> rfl
    | ptr id ix off => simp only [snap]; split <;> first | rfl | (split <;> rfl)
    | _ => rfl
theorem cells_notAgg {a : AV} (h : ∀ cs, a ≠ .agg cs) : a.cells = [a] := by
  cases a <;> first | rfl | exact absurd rfl (h _)
theorem snap_len (m : Mem) (k : Nat) (a : AV) : (snap m k a).cells.length = a.cells.length := by
  by_cases h : ∃ cs, a = .agg cs
  · obtain ⟨cs, rfl⟩ := h
    cases k with
    | zero => exact undefd_len _
    | succ k => simp [snap, AV.cells]
  · have h : ∀ cs, a ≠ .agg cs := fun cs e => h ⟨cs, e⟩
    rw [snap_notAgg h, cells_notAgg h]; rfl
theorem snap_cell {m : Mem} {k : Nat} {a c : AV} {j : Nat} (h : (snap m k a).cells[j]? = some c) : ∃ b, a.cells[j]? = some b ∧ (c = .undef ∨ ∃ k', k' ≤ k ∧ c = snap m k' b ∧ (hot k a = false → hot k' b = false)) := by
  by_cases hg : ∃ cs, a = .agg cs
  · obtain ⟨cs, rfl⟩ := hg
    cases k with
    | zero => obtain ⟨h1, b, h2⟩ := undefd_cell h; exact ⟨b, h2, .inl h1⟩
    | succ k =>
      simp only [snap, AV.cells, List.getElem?_map, Option.map_eq_some_iff] at h
      obtain ⟨b, h1, rfl⟩ := h
      refine ⟨b, h1, .inr ⟨k, by omega, rfl, fun hh => ?_⟩⟩
      simp only [hot, List.any_eq_false] at hh
      simpa using hh b (List.mem_of_getElem? h1)
  · have hg : ∀ cs, a ≠ .agg cs := fun cs e => hg ⟨cs, e⟩
    rw [snap_notAgg hg] at h
    rw [cells_notAgg hg]
    cases j with
    | zero => simp at h; exact ⟨a, rfl, .inr ⟨k, Nat.le_refl _, h.symm, id⟩⟩
    | succ j => simp at h

theorem X_nil {N : Nat → Nat → Prop} {z : Z} (h : z.m = .nil) {b o : Nat} : X C.P N z b o → N b o := by
  rintro (h1 | ⟨id, es, sz, h1, _⟩ | ⟨t, n, T, h1, _⟩)
  · exact h1
  · rw [h] at h1; simp [Mem.nil] at h1
  · rw [h] at h1; simp [Mem.nil] at h1

theorem live_AtI (hG : Good C N z) {id : Nat} {es : List AV} {sz : Nat} (hb : z.m.blks[id]? = some (.live es sz)) {i : Nat} {e : AV} (he : es[i]? = some e) {j : Nat} {a : AV} (ha : e.cells[j]? = some a) :
    ∃ u, cellAt z.h (z.ρ id) (i * sz + j) = some u ∧ u.oneCell' = true ∧ R C.P N z a u := by
  obtain ⟨cs, T, h1, h2, h3⟩ := hG.live id es sz hb
  obtain ⟨u, h4, h5, h6⟩ := (h3 i e he).2 j a ha
  exact ⟨u, by unfold cellAt; rw [h1]; exact h4, h5, h6⟩

theorem snap_R' (hG : Good C N z) (hz : z0.h = z.h) {M : Nat → Nat → Prop} (hX : ∀ b o, X C.P N' z0 b o → M b o) (hN : ∀ b o, M b o → X C.P N z b o) : ∀ (k : Nat) {a : AV} {v : Value}, R C.P N z a v → ((∀ (id : Nat) es sz, z.m.blks[id]? = some (.live es sz) → ∀ o, ¬M (z.ρ id) o) ∨ hot k a = false) → R C.P N' z0 (snap z.m k a) v := by
  intro k
  induction k using Nat.strongRecOn with
  | _ k ih =>
    cases k with
    | zero => intro a v h _; exact undefd_R h
    | succ k =>
      have at1 : ∀ (k' : Nat) {e : AV} {b o : Nat}, k' ≤ k → (∀ (j : Nat) a, e.cells[j]? = some a → ∃ u, cellAt z.h b (o + j) = some u ∧ ¬M b (o + j) ∧ u.oneCell' = true ∧ R C.P N z a u) → ((∀ (id : Nat) es sz, z.m.blks[id]? = some (.live es sz) → ∀ o, ¬M (z.ρ id) o) ∨ hot k' e = false) → AtI C.P N' z0 (R C.P N' z0) (snap z.m k' e) b o := by
        intro k' e b o hk h hc j c hj
        obtain ⟨a, h1, h2⟩ := snap_cell hj
        obtain ⟨u, h3, h4, h5, h6⟩ := h j a h1
        refine ⟨u, by rw [hz]; exact h3, fun hx => h4 (hX _ _ hx), h5, ?_⟩
        rcases h2 with rfl | ⟨k2, h7, rfl, h8⟩
        · exact R_undef _
        · exact ih k2 (by omega) h6 (hc.imp id h8)
      have at2 : ∀ {e : AV} {b o : Nat}, AtI C.P N z (R C.P N z) e b o → ∀ (j : Nat) a, e.cells[j]? = some a → ∃ u, cellAt z.h b (o + j) = some u ∧ ¬M b (o + j) ∧ u.oneCell' = true ∧ R C.P N z a u :=
        fun h j a ha => let ⟨u, h1, h2, h3, h4⟩ := h j a ha; ⟨u, h1, fun hx => h2 (hN _ _ hx), h3, h4⟩
      intro a v h hc
      cases a with
      | undef => exact R_undef _
      | bool b => exact R_bool.2 (R_bool.1 h)
      | int q n => exact R_int.2 (R_int.1 h)
      | str s => exact R_str.2 (R_str.1 h)
      | nilf => exact R_nilf.2 (R_nilf.1 h)
      | nilp => exact R_nilp.2 (R_nilp.1 h)
      | nilm => exact R_nilm.2 (R_nilm.1 h)
      | yld id => exact R_undef _
      | mp id => exact R_undef _
      | itr id => exact R_undef _
      | aps id ix off n => exact R_undef _
      | agg cs =>
        obtain ⟨us, rfl, h1⟩ := R_agg.1 h
        exact R_agg.2 ⟨us, rfl, RL_map h1 fun a ha u hu => ih k (by omega) hu (hc.imp id fun hh => by simp only [hot, List.any_eq_false] at hh; simpa using hh a ha)⟩
      | tup cs =>
        obtain ⟨us, rfl, h1⟩ := R_tup.1 h
        exact R_tup.2 ⟨us, rfl, RL_map h1 fun a ha u hu => ih k (by omega) hu (hc.imp id fun hh => by simp only [hot, List.any_eq_false] at hh; simpa using hh a ha)⟩
      | fn f first cap =>
        obtain ⟨fs, cs, rfl, h1, h2⟩ := R_fn.1 h
        refine R_fn.2 ⟨fs, cs, rfl, RL_map h1 fun a ha u hu => ih k (by omega) hu (hc.imp id fun hh => ?_), RL_map h2 fun a ha u hu => ih k (by omega) hu (hc.imp id fun hh => ?_)⟩
        · simp only [hot, Bool.or_eq_false_iff, List.any_eq_false] at hh; simpa using hh.1 a ha
        · simp only [hot, Bool.or_eq_false_iff, List.any_eq_false] at hh; simpa using hh.2 a ha
      | pv e off =>
        obtain ⟨b, o, rfl, h1⟩ := R_pv.1 h
        exact R_pv.2 ⟨b, o, rfl, at1 k (Nat.le_refl _) (at2 h1) (hc.imp id fun hh => by simpa [hot] using hh)⟩
      | sl es tk =>
        obtain ⟨a, cap, st, rfl, h1, h2, h3, h4, h5, _⟩ := R_sl.1 h
        refine R_sl.2 ⟨a, cap, st, by simp, by simpa using h1, h2, h3, fun e he => ?_, fun i e he => ?_, trivial⟩
        · obtain ⟨e0, he0, rfl⟩ := List.mem_map.1 he
          rw [snap_len]; exact h4 e0 he0
        · simp only [List.getElem?_map, Option.map_eq_some_iff] at he
          obtain ⟨e0, he0, rfl⟩ := he
          obtain ⟨b, o, rfl, h6⟩ := h5 i e0 he0
          refine ⟨b, o, rfl, at1 k (Nat.le_refl _) (at2 h6) (hc.imp id fun hh => ?_)⟩
          simp only [hot, List.any_eq_false] at hh; simpa using hh e0 (List.mem_of_getElem? he0)
      | ref id off len =>
        have hA := hc.resolve_right (by simp [hot])
        simp only [snap]
        split
        · rename_i es he
          simp only [Mem.elems] at he
          split at he
          · rename_i es0 sz hb
            split at he
            · rename_i hle
              cases he
              obtain ⟨_, _, h1⟩ := R_ref.1 h
              obtain ⟨cap, rfl, h2, h3, h4⟩ := h1 es0 sz hb
              have hlen : ((es0.drop off).take len).length = len := by simp; omega
              refine R_sl.2 ⟨some ⟨z.ρ id, off * sz, none⟩, cap, sz, by simp [hlen]; omega, by simp; omega, by omega, (fun e => by cases e), fun e he => ?_, fun i e he => ?_, trivial⟩
              · obtain ⟨e0, he0, rfl⟩ := List.mem_map.1 he
                rw [snap_len]
                obtain ⟨i, hi⟩ := List.mem_iff_getElem?.1 (List.mem_of_mem_drop (List.mem_of_mem_take he0))
                obtain ⟨cs, T, g1, g2, g3⟩ := hG.live id es0 sz hb
                exact (g3 i e0 hi).1
              · simp only [List.getElem?_map, Option.map_eq_some_iff] at he
                obtain ⟨e0, he0, rfl⟩ := he
                rw [List.getElem?_take] at he0
                split at he0
                · rw [List.getElem?_drop] at he0
                  refine ⟨z.ρ id, off * sz, rfl, at1 k (Nat.le_refl _) (fun j a ha => ?_) (.inl hA)⟩
                  obtain ⟨u, g1, g2, g3⟩ := live_AtI hG hb he0 ha
                  exact ⟨u, by rw [← g1, Nat.add_mul], fun hx => hA id es0 sz hb _ hx, g2, g3⟩
                · cases he0
            · cases he
          · cases he
        · exact R_undef _
      | ptr id ix off =>
        have hA := hc.resolve_right (by simp [hot])
        simp only [snap]
        split
        · rename_i es sz hb
          split
          · rename_i e he
            obtain ⟨_, _, h1⟩ := R_ptr.1 h
            refine R_pv.2 ⟨z.ρ id, ix * sz, h1 es sz hb, at1 k (Nat.le_refl _) (fun j a ha => ?_) (.inl hA)⟩
            obtain ⟨u, g1, g2, g3⟩ := live_AtI hG hb he ha
            exact ⟨u, g1, fun hx => hA id es sz hb _ hx, g2, g3⟩
          · exact R_undef _
        · exact R_undef _

theorem snap_R (hG : Good C N z) (hz : z0.h = z.h) (hm : z0.m = .nil) (hN : ∀ b o, N' b o → X C.P N z b o) (k : Nat) {a : AV} {v : Value} (h : R C.P N z a v) (hc : (∀ b o, N' b o → N b o) ∨ hot k a = false) : R C.P N' z0 (snap z.m k a) v :=
  snap_R' hG hz (fun _ _ => X_nil hm) hN k h (hc.imp (fun h id es sz hb o hx => hG.nl id es sz hb o (h _ _ hx)) id)

theorem plain_R : ∀ (k : Nat) {a : AV} {v : Value}, plain k a = true → R C.P N z a v → R C.P N' z0 a v
  | 0, _, _, h, _ => by simp [plain] at h
  | k + 1, a, v, hp, h => by
    cases a with
    | undef => exact R_undef _
    | bool b => exact R_bool.2 (R_bool.1 h)
    | int q n => exact R_int.2 (R_int.1 h)
    | str s => exact R_str.2 (R_str.1 h)
    | agg cs =>
      obtain ⟨us, rfl, h1⟩ := R_agg.1 h
      simp only [plain, List.all_eq_true] at hp
      have : RL (R C.P N' z0) (List.map id cs) us.toList := RL_map (f := id) h1 fun a ha u hu => plain_R k (hp a ha) hu
      rw [List.map_id] at this
      exact R_agg.2 ⟨us, rfl, this⟩
    | tup cs =>
      obtain ⟨us, rfl, h1⟩ := R_tup.1 h
      simp only [plain, List.all_eq_true] at hp
      have : RL (R C.P N' z0) (List.map id cs) us.toList := RL_map (f := id) h1 fun a ha u hu => plain_R k (hp a ha) hu
      rw [List.map_id] at this
      exact R_tup.2 ⟨us, rfl, this⟩
    | _ => simp [plain] at hp

/-- Memory that grows, and nothing else. -/
theorem tr_ext {h' : Array Obj} (hs : z.h.size ≤ h'.size) (he : ∀ b, b < z.h.size → h'[b]? = z.h[b]?) (hG : Good C N z) : Tr C.P N z { z with h := h' } where
  size := hs
  cell := fun b j u h _ => by show cellAt h' b j = _; unfold cellAt at *; rw [he b (cellAt_lt h)]; exact h
  forb := fun _ _ _ hx => hx
  other := fun b hb _ => he b hb
  own := fun _ _ h => h
  blks := Nat.le_refl _
  rho := fun _ _ => rfl
  live := fun id _ es sz h => ⟨⟨es, h⟩, by show csize h' _ = _; unfold csize; rw [he _ (hG.rho_lt h (by simp))]⟩
  toks := Nat.le_refl _
  tok := fun t _ n T h => ⟨n, h, Nat.le_refl _, fun _ => ⟨rfl, by show csize h' _ = _; unfold csize; rw [he _ (hG.tau_lt h)]⟩⟩
  loops := fun b l h => ⟨l, by show h'[b]? = _; rw [he b (Array.getElem?_eq_some_iff.1 h).1]; exact h⟩
theorem good_ext {h' : Array Obj} (hs : z.h.size ≤ h'.size) (he : ∀ b, b < z.h.size → h'[b]? = z.h[b]?) (hG : Good C N z) : Good C N { z with h := h' } := by
  have hT := tr_ext hs he hG
  constructor
  · intro id es sz h
    obtain ⟨cs, T, h2, h3, h4⟩ := hG.live id es sz h
    exact ⟨cs, T, (he _ (hG.rho_lt h (by simp))).trans h2, h3, fun i e he => ⟨(h4 i e he).1, fun j a ha => let ⟨u, h5, h6, h7⟩ := (h4 i e he).2 j a ha; ⟨u, h5, h6, R_step hT h7⟩⟩⟩
  · intro t n T h
    obtain ⟨cs, cap, h1, h2⟩ := hG.tok t n T h
    exact ⟨cs, cap, (he _ (hG.tau_lt h)).trans h1, h2⟩
  · exact hG.rr
  · exact hG.rt
  · exact hG.tt
  · exact hG.nl
  · exact hG.nt
  · intro b o' hn; exact Nat.lt_of_lt_of_le (hG.no b o' hn) hs
  · intro id env ps asg body rdy pend h
    obtain ⟨L, h2, h3, h4, h5, h6, h6', h7, h8, h9⟩ := hG.lp id env ps asg body rdy pend h
    exact ⟨L, (he _ (hG.rho_lt h (by simp))).trans h2, h3, h4, h5, h6, h6', fun t => R_step hT (h7 t), h8, h9⟩
  · intro g e h; exact R_step hT (hG.glob g e h)
  · intro id kvs ek h
    obtain ⟨es, clock, h2, h3⟩ := hG.mp id kvs ek h
    exact ⟨es, clock, (he _ (hG.rho_lt h (by simp))).trans h2, h3.step hT⟩
end
end Go.Ab
end

section
/-
  What an operation looks at, and what it leaves: the abstract machine alone.
-/
namespace Go.Ab

def Grow (m m' : Mem) : Prop := ∃ bs ts, m' = ⟨m.blks ++ bs, m.toks ++ ts⟩
theorem Grow.refl (m : Mem) : Grow m m := ⟨[], [], by simp⟩
theorem Grow.trans {a b c : Mem} (h : Grow a b) (k : Grow b c) : Grow a c := by
  obtain ⟨b1, t1, rfl⟩ := h; obtain ⟨b2, t2, rfl⟩ := k
  exact ⟨b1 ++ b2, t1 ++ t2, by simp⟩
theorem Grow.get {m m' : Mem} (h : Grow m m') {id : Nat} {k : Blk} (e : m.blks[id]? = some k) : m'.blks[id]? = some k := by
  obtain ⟨bs, ts, rfl⟩ := h
  have := (List.getElem?_eq_some_iff.1 e).1
  simp only []
  rw [List.getElem?_append_left this]; exact e
theorem Grow.newBlk (m : Mem) (es : List AV) (sz : Nat) : Grow m (newBlk m es sz) := ⟨[.live es sz], [], by simp [Ab.newBlk]⟩

section
variable {ft : FuncId → Option AFn} {R : Run} {md : FuncId → Md}

theorem ev_congr {s s' : St} {x : Src} (h : ∀ t ∈ x.tmps, s.env t = s'.env t) : s.ev x = s'.ev x := by
  cases x with
  | t n => exact h n (by simp [Src.tmps])
  | c v => rfl
theorem ev_setMem (s : St) (m : Mem) (x : Src) : (s.setMem m).ev x = s.ev x := by cases x <;> rfl

theorem callBy_env {f : FuncId} {as : List AV} {s s1 : St} {v : AV} (h : callBy ft R f as s = some (v, s1)) : s1 = s.setMem s1.mem := by
  unfold callBy at h
  split at h
  · cases h
  · split at h
    · simp only [Option.bind_eq_some_iff] at h
      obtain ⟨_, _, h⟩ := h
      split at h <;> cases h; rfl
    · simp only [Option.bind_eq_some_iff] at h
      obtain ⟨_, _, h⟩ := h
      split at h <;> cases h; rfl
    · simp only [Option.map_eq_some_iff] at h
      obtain ⟨_, _, h⟩ := h
      cases h; rfl
theorem callAny_env {f : AV} {as : List AV} {s s1 : St} {v : AV} (h : callAny ft R f as s = some (v, s1)) : s1 = s.setMem s1.mem := by
  unfold callAny at h
  split at h
  · exact callBy_env h
  · simp only [Option.map_eq_some_iff] at h
    obtain ⟨_, _, h⟩ := h
    cases h; rfl
  · cases h
theorem callFz_env {f : FuncId} {as : List AV} {s s1 : St} {v : AV} (h : callFz ft R f as s = some (v, s1)) : s1 = s := by
  unfold callFz at h
  split at h
  · cases h
  · simp only [Option.bind_eq_some_iff] at h
    obtain ⟨_, _, h⟩ := h
    split at h <;> cases h; rfl
theorem callFz_same {f : FuncId} {as : List AV} {s s1 s' : St} {v : AV} (hm : s'.mem = s.mem) (h : callFz ft R f as s = some (v, s1)) : callFz ft R f as s' = some (v, s'.setMem s1.mem) := by
  have h0 := callFz_env h
  unfold callFz at h ⊢
  rw [hm]
  split at h
  · cases h
  · simp only [Option.bind_eq_some_iff] at h ⊢
    obtain ⟨u, h1, h⟩ := h
    split at h
    · rename_i hc
      cases h
      exact ⟨_, h1, by rw [if_pos hc]; simp [St.setMem, ← hm]⟩
    · cases h
theorem callZ_env {f : AV} {as : List AV} {s s1 : St} {v : AV} (h : callZ ft R f as s = some (v, s1)) : s1 = s := by
  unfold callZ at h
  split at h
  · exact callFz_env h
  · cases h
theorem callZ_same {f : AV} {as : List AV} {s s1 s' : St} {v : AV} (hm : s'.mem = s.mem) (h : callZ ft R f as s = some (v, s1)) : callZ ft R f as s' = some (v, s'.setMem s1.mem) := by
  unfold callZ at h ⊢
  split at h
  · exact callFz_same hm h
  · cases h
theorem exec1_env {o : AOp} {s s1 : St} {v : AV} (h : exec1 ft R s o = some (v, s1)) : s1 = s.setMem s1.mem := by
  unfold exec1 at h
  split at h
  · exact callBy_env h
  · exact callAny_env h
  · have := callFz_env h; subst this; rfl
  · have := callZ_env h; subst this; rfl
  · simp only [Option.map_eq_some_iff] at h
    obtain ⟨_, _, h⟩ := h
    cases h; rfl

/-- The slots alone differ, and not those that are looked at. -/
theorem callBy_same {f : FuncId} {as : List AV} {s s1 s' : St} {v : AV} (hm : s'.mem = s.mem) (h : callBy ft R f as s = some (v, s1)) : callBy ft R f as s' = some (v, s'.setMem s1.mem) := by
  unfold callBy at h ⊢
  rw [hm]
  split at h
  · cases h
  · split at h
    · simp only [Option.bind_eq_some_iff] at h ⊢
      obtain ⟨u, h1, h⟩ := h
      split at h
      · rename_i hc
        cases h
        exact ⟨_, h1, by rw [if_pos hc]; simp [St.setMem, ← hm]⟩
      · cases h
    · simp only [Option.bind_eq_some_iff] at h ⊢
      obtain ⟨u, h1, h⟩ := h
      split at h
      · rename_i hc
        cases h
        exact ⟨_, h1, by rw [if_pos hc]; rfl⟩
      · cases h
    · simp only [Option.map_eq_some_iff] at h ⊢
      obtain ⟨u, h1, h⟩ := h
      cases h
      exact ⟨_, h1, rfl⟩
theorem exec1_same {o : AOp} {s s1 s' : St} {v : AV} (he : ∀ x ∈ o.srcs, s'.ev x = s.ev x) (hm : s'.mem = s.mem) (h : exec1 ft R s o = some (v, s1)) : exec1 ft R s' o = some (v, s'.setMem s1.mem) := by
  have hl : ∀ {l : List Src}, (∀ x ∈ l, s'.ev x = s.ev x) → l.map s'.ev = l.map s.ev := fun h => List.map_congr_left h
  have ho : ∀ {l : Option Src}, (∀ x ∈ l.toList, s'.ev x = s.ev x) → l.map s'.ev = l.map s.ev := fun {l} h => by cases l with | none => rfl | some x => simp [h x (by simp)]
  have key : op1 s' o = op1 s o → (op1 s o).map (fun p => (p.1, s.setMem p.2)) = some (v, s1) → (op1 s' o).map (fun p => (p.1, s'.setMem p.2)) = some (v, s'.setMem s1.mem) := by
    intro h1 h2
    rw [h1]
    simp only [Option.map_eq_some_iff] at h2 ⊢
    obtain ⟨p, h3, h4⟩ := h2
    cases h4
    exact ⟨p, h3, rfl⟩
  cases o with
  | call f args =>
    simp only [exec1] at h ⊢
    rw [hl (fun x hx => he x (by simpa [AOp.srcs] using hx))]
    exact callBy_same hm h
  | callv f args =>
    simp only [exec1] at h ⊢
    rw [hl (fun x hx => he x (by simp [AOp.srcs, hx])), he f (by simp [AOp.srcs])]
    unfold callAny at h ⊢
    split at h
    · exact callBy_same hm h
    · rw [hm]
      simp only [Option.map_eq_some_iff] at h ⊢
      obtain ⟨u, h1, h⟩ := h
      cases h
      exact ⟨_, h1, rfl⟩
    · cases h
  | callf f args =>
    simp only [exec1] at h ⊢
    rw [hl (fun x hx => he x (by simpa [AOp.srcs] using hx))]
    exact callFz_same hm h
  | callz f args =>
    simp only [exec1] at h ⊢
    rw [hl (fun x hx => he x (by simp [AOp.srcs, hx])), he f (by simp [AOp.srcs])]
    exact callZ_same hm h
  | mnl mx x xs =>
    refine key ?_ h
    simp only [op1]
    rw [hl (fun y hy => he y (by simp [AOp.srcs, hy])), he x (by simp [AOp.srcs]), hm]
  | build zs ps =>
    refine key ?_ h
    simp only [op1]
    rw [List.map_congr_left (g := fun p : Nat × Nat × Src => (p.1, p.2.1, s.ev p.2.2)) (fun p hp => by rw [he p.2.2 (by simp only [AOp.srcs]; exact List.mem_map.2 ⟨p, hp, rfl⟩)]), hm]
  | lit own T sz xs =>
    refine key ?_ h
    have hx : ∀ x ∈ xs, s'.ev x = s.ev x := fun x hx => he x (by simpa [AOp.srcs] using hx)
    have hall : xs.all (fun x => (s'.ev x).cells.length == sz && (s'.ev x).solids) = xs.all (fun x => (s.ev x).cells.length == sz && (s.ev x).solids) := by
      rw [Bool.eq_iff_iff]; simp only [List.all_eq_true]
      exact ⟨fun h x hx' => by rw [← hx x hx']; exact h x hx', fun h x hx' => by rw [hx x hx']; exact h x hx'⟩
    simp only [op1]
    rw [hl hx, hm, hall]
  | clo f a b =>
    refine key ?_ h
    simp only [op1]
    rw [hl (fun x hx => he x (by simp [AOp.srcs, hx])), hl (fun x hx => he x (by simp [AOp.srcs, hx])), hm]
  | slice x lo hi sz =>
    refine key ?_ h
    simp only [op1]
    rw [ho (fun y hy => he y (by simp only [AOp.srcs]; simp [hy])), ho (fun y hy => he y (by simp only [AOp.srcs]; simp [hy])), he x (by simp [AOp.srcs]), hm]
  | aslc x lo hi n =>
    refine key ?_ h
    simp only [op1]
    rw [ho (fun y hy => he y (by simp only [AOp.srcs]; simp [hy])), ho (fun y hy => he y (by simp only [AOp.srcs]; simp [hy])), he x (by simp [AOp.srcs]), hm]
  | sslice x lo hi =>
    refine key ?_ h
    simp only [op1]
    rw [ho (fun y hy => he y (by simp only [AOp.srcs]; simp [hy])), ho (fun y hy => he y (by simp only [AOp.srcs]; simp [hy])), he x (by simp [AOp.srcs]), hm]
  | new zv sz => exact key (by simp only [op1]; rw [hm]) h
  | mkmap ek => exact key (by simp only [op1]; rw [hm]) h
  | bad => exact key rfl h
  | mget ek z0 ok x y => exact key (by simp only [op1]; rw [he x (by simp [AOp.srcs]), he y (by simp [AOp.srcs]), hm]) h
  | mdel ek x y => exact key (by simp only [op1]; rw [he x (by simp [AOp.srcs]), he y (by simp [AOp.srcs]), hm]) h
  | mput ek x y u => exact key (by simp only [op1]; rw [he x (by simp [AOp.srcs]), he y (by simp [AOp.srcs]), he u (by simp [AOp.srcs]), hm]) h
  | pick a b c => exact key (by simp only [op1]; rw [he a (by simp [AOp.srcs]), he b (by simp [AOp.srcs]), he c (by simp [AOp.srcs]), hm]) h
  | store x y _ | bin _ x y | eqv _ _ _ x y | make _ _ _ _ x y | idx x y _ | aidx x y _ _ | vidx x y _ _ _ | sidx x y | app _ x y _ _ _ | app0 x y _ _ _ | appz x y _ _ _ _ | cpy x y _ | mnx _ x y =>
    exact key (by simp only [op1]; rw [he x (by simp [AOp.srcs]), he y (by simp [AOp.srcs]), hm]) h
  | mov x | box x _ | boxf x _ | load x _ | not x | neg x | cmpl x | conv _ x | addr x _ | fld x _ _ | ext x _ | len x | slen x | mlen x | cap x | clr x _ _ | mnil x | aps x _ =>
    exact key (by simp only [op1]; rw [he x (by simp [AOp.srcs]), hm]) h

theorem op1_blind {o : AOp} (hk : kind md o = 0) {s : St} {v : AV} {m : Mem} (h : op1 s o = some (v, m)) : m = s.mem ∧ ∀ m', op1 (s.setMem m') o = some (v, m') := by
  have hl : ∀ (l : List Src) m', l.map (s.setMem m').ev = l.map s.ev := fun l m' => List.map_congr_left fun x _ => ev_setMem s m' x
  have ho : ∀ (l : Option Src) m', l.map (s.setMem m').ev = l.map s.ev := fun l m' => by cases l with | none => rfl | some x => simp [ev_setMem]
  have mp : ∀ {α : Type} {x : Option α} {f : α → AV}, x.map (fun a => (f a, s.mem)) = some (v, m) → m = s.mem ∧ ∀ m' : Mem, x.map (fun a => (f a, m')) = some (v, m') := by
    intro α x f hx
    obtain ⟨a, h1, h2⟩ := Option.map_eq_some_iff.1 hx
    cases h2
    exact ⟨rfl, fun m' => by rw [h1]; rfl⟩
  cases o with
  | mov x => simp only [op1, ev_setMem, Option.some.injEq, Prod.mk.injEq] at h ⊢; exact ⟨h.2.symm, fun m' => ⟨h.1, rfl⟩⟩
  | clo f a b => simp only [op1, hl, Option.some.injEq, Prod.mk.injEq] at h ⊢; exact ⟨h.2.symm, fun m' => ⟨h.1, rfl⟩⟩
  | pick c a b =>
    simp only [op1, ev_setMem] at h ⊢
    split at h
    · cases h; exact ⟨rfl, fun m' => rfl⟩
    · cases h
  | build zs ps => simp only [op1, ev_setMem] at h ⊢; exact mp h
  | lit own T sz xs =>
    cases own with
    | true => simp [kind] at hk
    | false =>
      simp only [op1, ev_setMem, hl, Bool.false_eq_true, if_false] at h ⊢
      split at h
      · rename_i hc
        cases h
        exact ⟨rfl, fun m' => by rw [if_pos hc]; rfl⟩
      · cases h
  | bin op x y => simp only [op1, ev_setMem] at h ⊢; exact mp h
  | eqv n ag ts x y => simp only [op1, ev_setMem] at h ⊢; exact mp h
  | not x => simp only [op1, ev_setMem] at h ⊢; split at h <;> first | (cases h; exact ⟨rfl, fun m' => rfl⟩) | cases h
  | neg x => simp only [op1, ev_setMem] at h ⊢; split at h <;> first | (cases h; exact ⟨rfl, fun m' => rfl⟩) | cases h
  | cmpl x => simp only [op1, ev_setMem] at h ⊢; split at h <;> first | (cases h; exact ⟨rfl, fun m' => rfl⟩) | cases h
  | conv k x => simp only [op1, ev_setMem] at h ⊢; split at h <;> first | (cases h; exact ⟨rfl, fun m' => rfl⟩) | cases h
  | fld x off sz => simp only [op1, ev_setMem] at h ⊢; split at h <;> first | exact mp h | cases h
  | vidx x i n sz ld => simp only [op1, ev_setMem] at h ⊢; exact mp h
  | sidx x i =>
    simp only [op1, ev_setMem] at h ⊢
    split at h
    · split at h
      · rename_i hn
        simp only [if_pos hn]; exact mp h
      · cases h
    · cases h
  | ext x i => simp only [op1, ev_setMem] at h ⊢; split at h <;> first | exact mp h | cases h
  | slen x => simp only [op1, ev_setMem] at h ⊢; exact mp h
  | cap x => simp only [op1, ev_setMem] at h ⊢; exact mp h
  | mnil x => simp only [op1, ev_setMem] at h ⊢; exact mp h
  | sslice x lo hi => simp only [op1, ev_setMem, ho] at h ⊢; exact mp h
  | boxf x sz =>
    simp only [op1, ev_setMem] at h ⊢
    split at h
    · rename_i hc; cases h; exact ⟨rfl, fun m' => by rw [if_pos hc]; rfl⟩
    · cases h
  | aslc x lo hi n => simp only [op1, ev_setMem, ho] at h ⊢; exact mp h
  | mnx mx x y => simp only [op1, ev_setMem] at h ⊢; exact mp h
  | mnl mx x xs => simp only [op1, ev_setMem, hl] at h ⊢; exact mp h
  | call f as => cases h
  | callv f as => cases h
  | callf f as => cases h
  | callz f as => cases h
  | _ => simp [kind] at hk

theorem lsz_grow {m m' : Mem} (hg : Grow m m') {id n : Nat} (h : lsz m id = some n) : lsz m' id = some n := by
  obtain ⟨es, h1⟩ := lsz_some h
  unfold lsz; rw [hg.get h1]
theorem lszS_grow {m m' : Mem} (hg : Grow m m') {id : Nat} (h : (lsz m id).isSome = true) : (lsz m' id).isSome = true := by
  obtain ⟨n, h1⟩ := Option.isSome_iff_exists.1 h
  rw [lsz_grow hg h1]; rfl

theorem op1_reads {o : AOp} (hk : kind md o = 1) {s : St} {v : AV} {m : Mem} (h : op1 s o = some (v, m)) : m = s.mem ∧ ∀ m', Grow s.mem m' → op1 (s.setMem m') o = some (v, m') := by
  have ho : ∀ (l : Option Src) m', l.map (s.setMem m').ev = l.map s.ev := fun l m' => by cases l with | none => rfl | some x => simp [ev_setMem]
  have mp : ∀ {x : Option AV} {x' : Mem → Option AV}, x.map (fun a => (a, s.mem)) = some (v, m) → (∀ m', Grow s.mem m' → ∀ a, x = some a → x' m' = some a) → m = s.mem ∧ ∀ m' : Mem, Grow s.mem m' → (x' m').map (fun a => (a, m')) = some (v, m') := by
    intro x x' hx hf
    obtain ⟨a, h1, h2⟩ := Option.map_eq_some_iff.1 hx
    cases h2
    exact ⟨rfl, fun m' hg => by rw [hf m' hg _ h1]; rfl⟩
  cases o with
  | load x sz =>
    simp only [op1, ev_setMem] at h ⊢
    refine mp h fun m' hg a ha => ?_
    simp only [St.setMem]
    unfold loadAt at ha ⊢
    split at ha
    · rename_i id ix off he
      split at ha
      · rename_i es n hb
        simp only [hg.get hb]
        exact ha
      · cases ha
    · exact ha
    · cases ha
  | slice x lo hi sz =>
    simp only [op1, ev_setMem, ho] at h ⊢
    refine mp h fun m' hg a ha => ?_
    simp only [St.setMem]
    unfold sliceAt at ha ⊢
    split at ha
    · exact ha
    · split at ha
      · rename_i hl
        simp only [lsz_grow hg hl, if_true]; exact ha
      · cases ha
    · cases ha
  | addr x off =>
    simp only [op1, ev_setMem] at h ⊢
    refine mp h fun m' hg a ha => ?_
    simp only [St.setMem]
    unfold addrAt at ha ⊢
    split at ha
    · split at ha
      · rename_i hl
        simp only [lszS_grow hg hl, if_true]; exact ha
      · cases ha
    · exact ha
    · cases ha
  | idx x i sz =>
    simp only [op1, ev_setMem] at h ⊢
    refine mp h fun m' hg a ha => ?_
    simp only [St.setMem]
    unfold idxAt at ha ⊢
    split at ha
    · exact ha
    · split at ha
      · rename_i hl
        rw [if_pos ⟨hl.1, lsz_grow hg hl.2⟩]; exact ha
      · cases ha
    · cases ha
  | aidx x i n sz =>
    simp only [op1, ev_setMem] at h ⊢
    refine mp h fun m' hg a ha => ?_
    simp only [St.setMem]
    unfold aidxAt at ha ⊢
    split at ha
    · split at ha
      · rename_i hl
        rw [if_pos ⟨hl.1, lszS_grow hg hl.2⟩]; exact ha
      · cases ha
    · exact ha
    · cases ha
  | len x =>
    simp only [op1, ev_setMem] at h ⊢
    refine mp h fun m' hg a ha => ?_
    simp only [St.setMem]
    unfold lenAt at ha ⊢
    split at ha
    · exact ha
    · split at ha
      · rename_i hl
        simp only [lszS_grow hg hl, if_true]; exact ha
      · cases ha
    · cases ha
  | mget ek z0 ok x key =>
    simp only [op1, ev_setMem] at h ⊢
    refine mp h fun m' hg a ha => ?_
    simp only [St.setMem]
    unfold mgetAt at ha ⊢
    split at ha
    · split at ha
      · rename_i hb
        rw [hg.get hb]; exact ha
      · cases ha
    · exact ha
    · cases ha
  | mlen x =>
    simp only [op1, ev_setMem] at h ⊢
    refine mp h fun m' hg a ha => ?_
    simp only [St.setMem]
    unfold mlenAt at ha ⊢
    split at ha
    · split at ha
      · rename_i hb
        rw [hg.get hb]; exact ha
      · cases ha
    · exact ha
    · cases ha
  | lit own T sz xs => cases own <;> simp [kind] at hk
  | call f as => cases h
  | callv f as => cases h
  | callf f as => cases h
  | callz f as => cases h
  | _ => simp [kind] at hk

theorem op1_makes {o : AOp} (hk : kind md o = 2) {s : St} {v : AV} {m : Mem} (h : op1 s o = some (v, m)) : Grow s.mem m := by
  cases o with
  | new zv sz => simp only [op1] at h; split at h <;> first | (cases h; exact Grow.newBlk _ _ _) | cases h
  | box x sz => simp only [op1] at h; split at h <;> first | (cases h; exact Grow.newBlk _ _ _) | cases h
  | lit own T sz xs =>
    cases own with
    | false => simp [kind] at hk
    | true =>
      simp only [op1, if_true] at h
      split at h
      · cases h; exact Grow.newBlk _ _ _
      · cases h
  | make zv T sz by' l c =>
    simp only [op1] at h
    unfold makeAt at h
    split at h
    · split at h
      · cases h; exact Grow.newBlk _ _ _
      · cases h
    · cases h
  | mkmap ek => simp only [op1] at h; cases h; exact ⟨[.mp [] ek], [], by simp⟩
  | appz x y z0 T sz by' =>
    simp only [op1] at h
    unfold appendZ at h
    split at h
    · split at h
      · cases h; exact Grow.newBlk _ _ _
      · cases h
    · cases h
  | app0 x y T sz by' =>
    simp only [op1] at h
    unfold append0 at h
    split at h
    · split at h
      · cases h; exact Grow.newBlk _ _ _
      · split at h
        · cases h; exact Grow.refl _
        · cases h
    · cases h
  | call f as => cases h
  | callv f as => cases h
  | callf f as => cases h
  | callz f as => cases h
  | _ => simp [kind] at hk

/-! ### With calls -/
theorem exec1_op {o : AOp} (hc : calls o = false) {s s1 : St} {v : AV} (h : exec1 ft R s o = some (v, s1)) : op1 s o = some (v, s1.mem) := by
  cases o with
  | call f as => simp [calls] at hc
  | callv f as => simp [calls] at hc
  | callf f as => simp [calls] at hc
  | callz f as => simp [calls] at hc
  | _ =>
    simp only [exec1] at h
    obtain ⟨p, h1, h2⟩ := Option.map_eq_some_iff.1 h
    cases h2
    exact h1
theorem exec1_of_op {o : AOp} (hc : calls o = false) {s : St} {v : AV} {m : Mem} (h : op1 s o = some (v, m)) : exec1 ft R s o = some (v, s.setMem m) := by
  cases o with
  | call f as => simp [calls] at hc
  | callv f as => simp [calls] at hc
  | callf f as => simp [calls] at hc
  | callz f as => simp [calls] at hc
  | _ => simp only [exec1, h]; rfl

theorem kind0_calls {o : AOp} (hk : kind md o = 0) : calls o = false := by
  cases o with
  | call f as => simp only [kind] at hk; split at hk <;> cases hk
  | callv f as => simp [kind] at hk
  | callf f as => simp [kind] at hk
  | callz f as => simp [kind] at hk
  | _ => rfl
theorem setMem_self (s : St) : s.setMem s.mem = s := rfl

variable (hmd : ∀ f fn, ft f = some fn → fn.md = md f)
include hmd
theorem exec1_quiet {o : AOp} (hk : kind md o ≤ 1) {s s1 : St} {v : AV} (h : exec1 ft R s o = some (v, s1)) : s1.mem = s.mem := by
  cases hc : calls o with
  | false =>
    have := exec1_op hc h
    rcases Nat.le_one_iff_eq_zero_or_eq_one.1 hk with hk | hk
    · exact (op1_blind hk this).1
    · exact (op1_reads hk this).1
  | true =>
    cases o with
    | call f as =>
      simp only [exec1] at h
      unfold callBy at h
      split at h
      · cases h
      · rename_i fn hf
        have := hmd f fn hf
        simp only [kind, ← this] at hk
        split at h
        · simp only [Option.bind_eq_some_iff] at h
          obtain ⟨u, h1, h⟩ := h
          split at h <;> cases h; rfl
        · rename_i hm; simp [hm] at hk
        · rename_i hm; simp [hm] at hk
    | callv f as => simp [kind] at hk
    | callf f as => simp only [exec1] at h; rw [callFz_env h]
    | callz f as => simp only [exec1] at h; rw [callZ_env h]
    | _ => simp [calls] at hc
theorem exec1_makes {o : AOp} (hk : kind md o = 2) {s s1 : St} {v : AV} (h : exec1 ft R s o = some (v, s1)) : Grow s.mem s1.mem := by
  cases hc : calls o with
  | false => exact op1_makes hk (exec1_op hc h)
  | true =>
    cases o with
    | call f as =>
      simp only [exec1] at h
      unfold callBy at h
      split at h
      · cases h
      · rename_i fn hf
        have := hmd f fn hf
        simp only [kind, ← this] at hk
        split at h
        · rename_i hm; simp [hm] at hk
        · simp only [Option.bind_eq_some_iff] at h
          obtain ⟨u, h1, h⟩ := h
          split at h
          · cases h; exact ⟨_, _, rfl⟩
          · cases h
        · rename_i hm; simp [hm] at hk
    | callv f as => simp [kind] at hk
    | callf f as => simp [kind] at hk
    | callz f as => simp [kind] at hk
    | _ => simp [calls] at hc
end
end Go.Ab
end
