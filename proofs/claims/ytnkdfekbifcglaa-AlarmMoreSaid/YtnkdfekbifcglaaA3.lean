/-
  A part of the proofs over this seat.
  (The texts Ab22 Ab23 Ab24 Ab25 Ab26 Ab26a Ab26b Ab26d Ab26e Ab26f Ab26g Ab26h Ab26c, one behind the other.)
-/
import Derived.Test.YtnkdfekbifcglaaA2
import Derived.OwnWalkIn
import Derived.OrdersIn
set_option linter.unusedSimpArgs false
set_option linter.unusedVariables false
set_option linter.unusedSectionVars false
section
/-
  A region's operations in any order that their edges allow: the same state.
-/
namespace Go.Ab

/-! ### What must come before -/
theorem anc1_bit (acc : List Nat) (k : Nat) : ∀ ps : List Nat, (anc1 acc ps).testBit k = true → ∃ q ∈ ps, k = q ∨ (acc.getD q 0).testBit k = true
  | [], h => by simp [anc1] at h
  | p :: r, h => by
    simp only [anc1, List.foldr_cons, Nat.testBit_or, Bool.or_eq_true] at h
    rcases h with (h | h) | h
    · obtain ⟨q, h1, h2⟩ := anc1_bit acc k r h
      exact ⟨q, by simp [h1], h2⟩
    · rw [Nat.testBit_two_pow] at h
      exact ⟨p, by simp, .inl (by simpa using h : p = k).symm⟩
    · exact ⟨p, by simp, .inr h⟩
theorem ancs_pre : ∀ (ps : List (List Nat)) (acc : List Nat), ∃ r, ancs ps acc = acc ++ r ∧ r.length = ps.length
  | [], acc => ⟨[], by simp [ancs], rfl⟩
  | p :: ps, acc => by
    obtain ⟨r, h1, h2⟩ := ancs_pre ps (acc ++ [anc1 acc p])
    exact ⟨anc1 acc p :: r, by simp [ancs, h1], by simp [h2]⟩
theorem ancs_get : ∀ (ps : List (List Nat)) (acc : List Nat) (i : Nat) l, ps[i]? = some l → ∃ acc', (ancs ps acc)[acc.length + i]? = some (anc1 acc' l) ∧ acc' = (ancs ps acc).take (acc.length + i)
  | [], _, _, _, h => by simp at h
  | p :: ps, acc, 0, l, h => by
    simp at h; subst h
    obtain ⟨r, h1, h2⟩ := ancs_pre ps (acc ++ [anc1 acc p])
    refine ⟨acc, ?_, ?_⟩
    · simp only [ancs, h1]; simp
    · simp only [ancs, h1]; simp
  | p :: ps, acc, i + 1, l, h => by
    simp at h
    obtain ⟨acc', h1, h2⟩ := ancs_get ps (acc ++ [anc1 acc p]) i l h
    simp only [List.length_append, List.length_cons, List.length_nil, Nat.zero_add] at h1 h2
    exact ⟨acc', by simp only [ancs]; rw [← h1]; congr 1; omega, by rw [h2]; simp only [ancs]; congr 1; omega⟩
theorem anc_bit {ps : List (List Nat)} (hlt : ∀ (i : Nat) l, ps[i]? = some l → ∀ q ∈ l, q < i) {i k : Nat} {l : List Nat} (hl : ps[i]? = some l) (h : ((ancs ps []).getD i 0).testBit k = true) :
    ∃ q ∈ l, k = q ∨ ((ancs ps []).getD q 0).testBit k = true := by
  obtain ⟨acc', h1, h2⟩ := ancs_get ps [] i l hl
  simp only [List.length_nil, Nat.zero_add] at h1 h2
  rw [List.getD_eq_getElem?_getD, h1, Option.getD_some] at h
  obtain ⟨q, hq, h3⟩ := anc1_bit _ _ _ h
  refine ⟨q, hq, h3.imp id fun h4 => ?_⟩
  rw [h2] at h4
  have := hlt i l hl q hq
  rw [List.getD_eq_getElem?_getD, List.getElem?_take, if_pos this] at h4
  rw [List.getD_eq_getElem?_getD]; exact h4
theorem anc_closed {ps : List (List Nat)} (hlt : ∀ (i : Nat) l, ps[i]? = some l → ∀ q ∈ l, q < i) {D : Nat → Prop} (hD : ∀ (i : Nat) l, ps[i]? = some l → D i → ∀ q ∈ l, D q) :
    ∀ (i : Nat) l, ps[i]? = some l → (∀ q ∈ l, D q) → ∀ k, ((ancs ps []).getD i 0).testBit k = true → D k := by
  intro i
  induction i using Nat.strongRecOn with
  | _ i ih =>
    intro l hl hq k hk
    obtain ⟨q, h1, rfl | h2⟩ := anc_bit hlt hl hk
    · exact hq _ h1
    · have hqi := hlt i l hl q h1
      cases hp : ps[q]? with
      | none =>
        have : ps.length ≤ q := List.getElem?_eq_none_iff.1 hp
        have h3 : i < ps.length := (List.getElem?_eq_some_iff.1 hl).1
        omega
      | some l' => exact ih q hqi l' hp (hD q l' hp (hq q h1)) k h2
theorem anc_none {ps : List (List Nat)} {i k : Nat} (h : ((ancs ps []).getD i 0).testBit k = true) : i < ps.length := by
  obtain ⟨r, h1, h2⟩ := ancs_pre ps []
  rw [h1, List.nil_append] at h
  rw [← h2]
  refine Classical.byContradiction fun hn => ?_
  rw [List.getD_eq_getElem?_getD, List.getElem?_eq_none (by omega)] at h
  simp at h

/-- What a reading operation sees in another memory: the same. -/
def Sees (o : AOp) (s : St) (m' : Mem) : Prop := ∀ v m, op1 s o = some (v, m) → op1 (s.setMem m') o = some (v, m')
theorem lsz_store {m1 m2 : Mem} {p w : AV} {n : Nat} (h : storeAt m1 p w n = some m2) (id : Nat) : lsz m2 id = lsz m1 id := by
  unfold storeAt at h
  split at h
  · rename_i q ix off
    split at h
    · rename_i es n' hb
      split at h
      · split at h
        · obtain ⟨e', _, rfl⟩ := Option.map_eq_some_iff.1 h
          unfold lsz
          by_cases hq : id = q
          · subst hq
            simp only []
            rw [List.getElem?_set_self (List.getElem?_eq_some_iff.1 hb).1, hb]
          · simp only []
            rw [List.getElem?_set_ne (Ne.symm hq)]
        · cases h
      · cases h
    · cases h
  · cases h
theorem blk_store {m1 m2 : Mem} {q ix off : Nat} {w : AV} {n : Nat} (h : storeAt m1 (.ptr q ix off) w n = some m2) {id : Nat} (hne : id ≠ q) : m2.blks[id]? = m1.blks[id]? := by
  simp only [storeAt] at h
  split at h
  · split at h
    · split at h
      · obtain ⟨e', _, rfl⟩ := Option.map_eq_some_iff.1 h
        simp only []
        rw [List.getElem?_set_ne (Ne.symm hne)]
      · cases h
    · cases h
  · cases h
theorem op1_store {o : AOp} {s : St} {v : AV} {m1 m2 : Mem} {p w : AV} {n : Nat} (h : op1 (s.setMem m1) o = some (v, m1)) (hs : storeAt m1 p w n = some m2)
    (hc : still o = true ∨ ∃ a sz, o = .load a sz ∧ apart (s.ev a) p = true) : op1 (s.setMem m2) o = some (v, m2) := by
  have ho : ∀ (l : Option Src) m', l.map (s.setMem m').ev = l.map s.ev := fun l m' => by cases l with | none => rfl | some x => simp [ev_setMem]
  have hl := lsz_store hs
  have mp : ∀ {x y : Option AV}, x.map (fun a => (a, m1)) = some (v, m1) → y = x → y.map (fun a => (a, m2)) = some (v, m2) := by
    intro x y hx hy
    obtain ⟨a, h1, h2⟩ := Option.map_eq_some_iff.1 hx
    cases h2
    rw [hy, h1]; rfl
  rcases hc with hc | ⟨a, sz, rfl, hc⟩
  · cases o with
    | slice x lo hi sz =>
      simp only [op1, ev_setMem, ho] at h ⊢
      refine mp h ?_
      simp only [St.setMem]
      unfold sliceAt
      simp only [hl]
    | addr x off =>
      simp only [op1, ev_setMem] at h ⊢
      refine mp h ?_
      simp only [St.setMem]
      unfold addrAt
      simp only [hl]
    | idx x i sz =>
      simp only [op1, ev_setMem] at h ⊢
      refine mp h ?_
      simp only [St.setMem]
      unfold idxAt
      simp only [hl]
    | aidx x i n sz =>
      simp only [op1, ev_setMem] at h ⊢
      refine mp h ?_
      simp only [St.setMem]
      unfold aidxAt
      simp only [hl]
    | len x =>
      simp only [op1, ev_setMem] at h ⊢
      refine mp h ?_
      simp only [St.setMem]
      unfold lenAt
      simp only [hl]
    | _ => simp [still] at hc
  · simp only [op1, ev_setMem] at h ⊢
    refine mp h ?_
    simp only [St.setMem]
    cases hx : s.ev a with
    | ptr id ix off =>
      rw [hx] at hc
      cases p with
      | sl es tk => simp [storeAt] at hs
      | ref b o l => simp [storeAt] at hs
      | ptr q ix' off' =>
        have hne : id ≠ q := by simpa [apart] using hc
        unfold loadAt
        simp only [blk_store hs hne]
      | _ => simp [apart] at hc
    | pv e off => rfl
    | tup vs => rw [hx] at h; simp [loadAt] at h
    | _ => rw [hx] at hc; simp [apart] at hc
theorem blk_app {m m2 : Mem} {own : Bool} {s x v : AV} {T sz bytes id ix o : Nat} (h : appendAt m own s x T sz bytes = some (v, m2)) (ha : apart (.ptr id ix o) s = true) (hlt : id < m.blks.length) : m2.blks[id]? = m.blks[id]? := by
  have hnew : ∀ (b : Blk), (m.blks ++ [b])[id]? = m.blks[id]? := fun b => List.getElem?_append_left hlt
  unfold appendAt at h
  split at h
  · cases h
  · split at h
    · cases h
    · split at h
      · split at h
        · split at h
          · split at h
            · split at h
              · cases h; rfl
              · cases h; unfold newBlk; simp only [hnew]
            · cases h
          · obtain ⟨⟨tk', toks'⟩, _, h2⟩ := Option.map_eq_some_iff.1 h
            cases h2; rfl
        · cases h
      · rename_i b off len
        have hne : id ≠ b := by simpa [apart] using ha
        split at h
        · split at h
          · cases h
          · split at h
            · cases h
              simp only [List.getElem?_set_ne (Ne.symm hne)]
            · split at h
              · cases h
                simp only []
                rw [List.getElem?_append_left (by rw [List.length_set]; exact hlt), List.getElem?_set_ne (Ne.symm hne)]
              · cases h
        · cases h
      · cases h
theorem lsz_app {m m2 : Mem} {own : Bool} {s x v : AV} {T sz bytes id ix o : Nat} (h : appendAt m own s x T sz bytes = some (v, m2)) (ha : apart (.ptr id ix o) s = true) (hl : (lsz m id).isSome = true) : lsz m2 id = lsz m id := by
  have hlt : id < m.blks.length := by
    unfold lsz at hl
    refine Classical.byContradiction fun hn => ?_
    rw [List.getElem?_eq_none (by omega)] at hl
    cases hl
  unfold lsz; rw [blk_app h ha hlt]
theorem op1_appL {a : Src} {sz0 : Option Nat} {s : St} {v : AV} {m1 m2 : Mem} {own : Bool} {p x v2 : AV} {T sz bytes : Nat} (h : op1 (s.setMem m1) (.load a sz0) = some (v, m1)) (hs : appendAt m1 own p x T sz bytes = some (v2, m2))
    (hc : apart (s.ev a) p = true) : op1 (s.setMem m2) (.load a sz0) = some (v, m2) := by
  simp only [op1, ev_setMem] at h ⊢
  obtain ⟨u, h1, h2⟩ := Option.map_eq_some_iff.1 h
  cases h2
  simp only [St.setMem] at h1 ⊢
  have : loadAt m2 (s.ev a) sz0 = some v := by
    cases hx : s.ev a with
    | ptr id ix o =>
      rw [hx] at h1 hc
      rw [loadAt] at h1 ⊢
      have hlt : id < m1.blks.length := by
        refine Classical.byContradiction fun hn => ?_
        rw [List.getElem?_eq_none (by omega)] at h1
        cases h1
      rw [blk_app hs hc hlt]; exact h1
    | pv e o => rw [hx] at h1; exact h1
    | _ => rw [hx] at h1; simp [loadAt] at h1
  rw [this]; rfl
theorem op1_app {a : Src} {off : Nat} {s : St} {v : AV} {m1 m2 : Mem} {own : Bool} {p x v2 : AV} {T sz bytes : Nat} (h : op1 (s.setMem m1) (.addr a off) = some (v, m1)) (hs : appendAt m1 own p x T sz bytes = some (v2, m2))
    (hc : apart (s.ev a) p = true) : op1 (s.setMem m2) (.addr a off) = some (v, m2) := by
  simp only [op1, ev_setMem] at h ⊢
  obtain ⟨u, h1, h2⟩ := Option.map_eq_some_iff.1 h
  cases h2
  simp only [St.setMem] at h1 ⊢
  have : addrAt m2 (s.ev a) off = some v := by
    cases hx : s.ev a with
    | ptr id ix o =>
      rw [hx] at h1 hc
      rw [addrAt] at h1 ⊢
      split at h1
      · rename_i hl
        rw [lsz_app hs hc hl, if_pos hl]; exact h1
      · cases h1
    | pv e o => rw [hx] at h1; exact h1
    | _ => rw [hx] at h1; simp [addrAt] at h1
  rw [this]; rfl
theorem execI_app {ft : FuncId → Option AFn} {R : Run} {b : AI} {own : Bool} {q w : Src} {T n by' : Nat} (hb : b.op = .app own q w T n by') {s s1 : St} (h : execI ft R b s = some s1) : s1.mem = s.mem ∨ ∃ v, appendAt s.mem own (s.ev q) (s.ev w) T n by' = some (v, s1.mem) := by
  have key : (exec1 ft R s b.op).map (fun p => p.2.put b.dst p.1) = some s1 → ∃ v, appendAt s.mem own (s.ev q) (s.ev w) T n by' = some (v, s1.mem) := by
    intro h
    rw [hb] at h
    simp only [exec1, op1, Option.map_map, Option.map_eq_some_iff] at h
    obtain ⟨⟨v, m⟩, h1, rfl⟩ := h
    refine ⟨v, ?_⟩
    rw [h1]
    simp only [Function.comp, St.put]
    split <;> rfl
  have skip : some (s.put b.dst (.tup [])) = some s1 → s1.mem = s.mem := by
    intro h; cases h
    unfold St.put; split <;> rfl
  unfold execI at h
  split at h
  · exact .inr (key h)
  · split at h
    · split at h
      · exact .inr (key h)
      · exact .inl (skip h)
    · exact .inl (skip h)
    · cases h
theorem Sees.self {md : FuncId → Md} {o : AOp} (hk : kind md o = 1) (s : St) : Sees o s s.mem := fun v m h => by
  have := (op1_reads hk h).1
  subst this
  exact h
theorem Sees.grow {md : FuncId → Md} {o : AOp} (hk : kind md o = 1) {s : St} {m1 m2 : Mem} (h : Sees o s m1) (hg : Grow m1 m2) : Sees o s m2 := fun v m e => by
  have h1 := h v m e
  exact (op1_reads hk h1).2 m2 hg
theorem Sees.pv {a : Nat} {sz : Option Nat} {s : St} (he : apart (s.env a) (s.env a) = true) (m2 : Mem) : Sees (.load (.t a) sz) s m2 := fun v m h => by
  simp only [op1, ev_setMem] at h ⊢
  obtain ⟨u, h1, h2⟩ := Option.map_eq_some_iff.1 h
  cases h2
  have : loadAt m2 (s.ev (.t a)) sz = some v := by
    cases hx : s.env a with
    | pv e o =>
      have hx' : s.ev (.t a) = .pv e o := hx
      rw [hx'] at h1 ⊢; exact h1
    | tup vs => have hx2 : s.ev (.t a) = .tup vs := hx; rw [hx2] at h1; simp [loadAt] at h1
    | _ => rw [hx] at he; simp [apart] at he
  simp only [St.setMem, this]; rfl
theorem Sees.pvA {a off : Nat} {s : St} (he : apart (s.env a) (s.env a) = true) (m2 : Mem) : Sees (.addr (.t a) off) s m2 := fun v m h => by
  simp only [op1, ev_setMem] at h ⊢
  obtain ⟨u, h1, h2⟩ := Option.map_eq_some_iff.1 h
  cases h2
  have : addrAt m2 (s.ev (.t a)) off = some v := by
    cases hx : s.env a with
    | pv e o =>
      have hx' : s.ev (.t a) = .pv e o := hx
      rw [hx'] at h1 ⊢; exact h1
    | tup vs => have hx2 : s.ev (.t a) = .tup vs := hx; rw [hx2] at h1; simp [addrAt] at h1
    | _ => rw [hx] at he; simp [apart] at he
  simp only [St.setMem, this]; rfl
theorem Sees.store {o : AOp} {s : St} {m1 m2 : Mem} {p w : AV} {n : Nat} (h : Sees o s m1) (hs : storeAt m1 p w n = some m2)
    (hc : still o = true ∨ ∃ a sz, o = .load a sz ∧ apart (s.ev a) p = true) : Sees o s m2 := fun v m e => op1_store (h v m e) hs hc
theorem execI_store {ft : FuncId → Option AFn} {R : Run} {b : AI} {q w : Src} {n : Nat} (hb : b.op = .store q w n) {s s1 : St} (h : execI ft R b s = some s1) : s1.mem = s.mem ∨ storeAt s.mem (s.ev q) (s.ev w) n = some s1.mem := by
  have key : (exec1 ft R s b.op).map (fun p => p.2.put b.dst p.1) = some s1 → storeAt s.mem (s.ev q) (s.ev w) n = some s1.mem := by
    intro h
    rw [hb] at h
    simp only [exec1, op1, Option.map_map, Option.map_eq_some_iff] at h
    obtain ⟨m, h1, rfl⟩ := h
    rw [h1]
    simp only [Function.comp, St.put]
    split <;> rfl
  have skip : some (s.put b.dst (.tup [])) = some s1 → s1.mem = s.mem := by
    intro h; cases h
    unfold St.put; split <;> rfl
  unfold execI at h
  split at h
  · exact .inr (key h)
  · split at h
    · split at h
      · exact .inr (key h)
      · exact .inl (skip h)
    · exact .inl (skip h)
    · cases h

/-! ### One operation from another state -/
section
variable {ft : FuncId → Option AFn} {R : Run} {md : FuncId → Md} (hmd : ∀ f fn, ft f = some fn → fn.md = md f)

theorem put_setMem (s : St) (m : Mem) (d : Option Nat) (v : AV) : (s.setMem m).put d v = (s.put d v).setMem m := by cases d <;> rfl
theorem names_ev {a : AI} {s s' : St} (h : ∀ t ∈ a.names, s'.env t = s.env t) : ∀ x ∈ a.op.srcs, s'.ev x = s.ev x := fun x hx =>
  ev_congr fun t ht => h t (List.mem_append_left _ (List.mem_flatMap.2 ⟨x, hx, ht⟩))
include hmd
theorem execI_form {a : AI} {s s1 : St} (h : execI ft R a s = some s1) : ∃ v m, s1 = (s.setMem m).put a.dst v ∧ (kind md a.op ≤ 1 → m = s.mem) ∧ (kind md a.op = 2 → Grow s.mem m) ∧
    ∀ s' : St, (∀ t ∈ a.names, s'.env t = s.env t) → (s'.mem = s.mem → execI ft R a s' = some ((s'.setMem m).put a.dst v)) ∧
      (kind md a.op = 0 ∨ (kind md a.op = 1 ∧ calls a.op = false ∧ Sees a.op s s'.mem) → execI ft R a s' = some (s'.put a.dst v)) := by
  have run : ∀ {v : AV} {s2 : St}, exec1 ft R s a.op = some (v, s2) → s2 = s.setMem s2.mem ∧ (kind md a.op ≤ 1 → s2.mem = s.mem) ∧ (kind md a.op = 2 → Grow s.mem s2.mem) ∧
      ∀ s' : St, (∀ t ∈ a.names, s'.env t = s.env t) → (s'.mem = s.mem → exec1 ft R s' a.op = some (v, s'.setMem s2.mem)) ∧
      (kind md a.op = 0 ∨ (kind md a.op = 1 ∧ calls a.op = false ∧ Sees a.op s s'.mem) → exec1 ft R s' a.op = some (v, s')) := by
    intro v s2 he
    refine ⟨exec1_env he, fun hk => exec1_quiet hmd hk he, fun hk => exec1_makes hmd hk he, fun s' hn => ⟨fun hm => exec1_same (names_ev hn) hm he, fun hk => ?_⟩⟩
    have hc : calls a.op = false := hk.elim kind0_calls fun hk => hk.2.1
    have hop := exec1_op hc he
    have h3 : op1 (s.setMem s'.mem) a.op = some (v, s'.mem) := by
      rcases hk with hk | ⟨hk, _, hg⟩
      · exact (op1_blind hk hop).2 _
      · exact hg _ _ hop
    have h6 := exec1_same (s := s.setMem s'.mem) (s' := s') (fun x hx => by rw [ev_setMem]; exact names_ev hn x hx) rfl (exec1_of_op (ft := ft) (R := R) hc h3)
    exact h6
  unfold execI at h
  split at h
  · rename_i hg
    obtain ⟨⟨v, s2⟩, he, rfl⟩ := Option.map_eq_some_iff.1 h
    obtain ⟨h1, h2, h3, h4⟩ := run he
    refine ⟨v, s2.mem, by rw [← h1], h2, h3, fun s' hn => ⟨fun hm => ?_, fun hk => ?_⟩⟩
    · unfold execI; rw [hg]; simp only [(h4 s' hn).1 hm]; rfl
    · unfold execI; rw [hg]; simp only [(h4 s' hn).2 hk]; rfl
  · rename_i t b hg
    have ht : ∀ s' : St, (∀ t ∈ a.names, s'.env t = s.env t) → s'.env t = s.env t := fun s' hn => hn t (List.mem_append_right _ (by rw [hg]; simp))
    split at h
    · rename_i b' hb
      split at h
      · rename_i hbb
        obtain ⟨⟨v, s2⟩, he, rfl⟩ := Option.map_eq_some_iff.1 h
        obtain ⟨h1, h2, h3, h4⟩ := run he
        refine ⟨v, s2.mem, by rw [← h1], h2, h3, fun s' hn => ⟨fun hm => ?_, fun hk => ?_⟩⟩
        · unfold execI; rw [hg]; simp only [ht s' hn, hb, if_pos hbb, (h4 s' hn).1 hm]; rfl
        · unfold execI; rw [hg]; simp only [ht s' hn, hb, if_pos hbb, (h4 s' hn).2 hk]; rfl
      · rename_i hbb
        cases h
        refine ⟨.tup [], s.mem, rfl, fun _ => rfl, fun _ => Grow.refl _, fun s' hn => ⟨fun hm => ?_, fun hk => ?_⟩⟩
        · unfold execI; rw [hg]; simp only [ht s' hn, hb, if_neg hbb]; rw [← hm]; rfl
        · unfold execI; rw [hg]; simp only [ht s' hn, hb, if_neg hbb]
    · rename_i hb
      cases h
      refine ⟨.tup [], s.mem, rfl, fun _ => rfl, fun _ => Grow.refl _, fun s' hn => ⟨fun hm => ?_, fun hk => ?_⟩⟩
      · unfold execI; rw [hg]; simp only [ht s' hn, hb]; rw [← hm]; rfl
      · unfold execI; rw [hg]; simp only [ht s' hn, hb]
    · cases h
end

/-! ### A run in the text's order, and any other -/
def Trace (ft : FuncId → Option AFn) (R : Run) (as : List AI) (p : Nat → St) : Prop := ∀ (i : Nat) a, as[i]? = some a → execI ft R a (p i) = some (p (i + 1))
theorem trace_of {ft : FuncId → Option AFn} {R : Run} : ∀ {as : List AI} {s s' : St}, execOps ft R as s = some s' → ∃ p : Nat → St, p 0 = s ∧ p as.length = s' ∧ Trace ft R as p
  | [], s, s', h => by cases h; exact ⟨fun _ => s, rfl, rfl, fun i a h => by simp at h⟩
  | a :: as, s, s', h => by
    simp only [execOps, Option.bind_eq_some_iff] at h
    obtain ⟨s1, h1, h2⟩ := h
    obtain ⟨p, h3, h4, h5⟩ := trace_of h2
    refine ⟨fun i => match i with | 0 => s | i + 1 => p i, rfl, h4, fun i b hb => ?_⟩
    cases i with
    | zero => simp at hb; subst hb; show execI ft R a s = some (p 0); rw [h3]; exact h1
    | succ i => exact h5 i b (by simpa using hb)

structure OkD (md : FuncId → Md) (chks : List (Nat × Nat)) (ps : List (List Nat)) (as : List AI) : Prop where
  len : as.length = ps.length
  lt : ∀ (i : Nat) l, ps[i]? = some l → ∀ q ∈ l, q < i
  pair : ∀ (i j : Nat) x y, as[i]? = some x → as[j]? = some y → i ≠ j → okPair md as chks (ancs ps []) i j x y = true
theorem OkD_of {md : FuncId → Md} {chks : List (Nat × Nat)} {ps : List (List Nat)} {as : List AI} (hl : as.length = ps.length) (h : okDraw md chks ps as = true) : OkD md chks ps as := by
  simp only [okDraw, Bool.and_eq_true, List.all_eq_true, decide_eq_true_eq, Bool.or_eq_true, beq_iff_eq] at h
  refine ⟨hl, fun i l h1 q hq => h.1 (l, i) (by rw [List.mem_zipIdx_iff_getElem?]; exact h1) q hq, fun i j x y h1 h2 hne => ?_⟩
  exact (h.2 (x, i) (by rw [List.mem_zipIdx_iff_getElem?]; exact h1) (y, j) (by rw [List.mem_zipIdx_iff_getElem?]; exact h2)).resolve_left hne

structure InvD (md : FuncId → Md) (as : List AI) (p : Nat → St) (D : Nat → Prop) (s : St) : Prop where
  did : ∀ (i : Nat) a t, as[i]? = some a → D i → a.dst = some t → s.env t = (p as.length).env t
  not : ∀ t, (∀ (i : Nat) a, as[i]? = some a → D i → a.dst ≠ some t) → s.env t = (p 0).env t
  mem : ∃ c, c ≤ as.length ∧ s.mem = (p c).mem ∧ ∀ (i : Nat) a, as[i]? = some a → 2 ≤ kind md a.op → (D i ↔ i < c)

section
variable {ft : FuncId → Option AFn} {R : Run} {md : FuncId → Md} (hmd : ∀ f fn, ft f = some fn → fn.md = md f) {chks : List (Nat × Nat)} {ps : List (List Nat)} {as : List AI} (hok : OkD md chks ps as) {p : Nat → St} (ht : Trace ft R as p)

include hok in
theorem dst_ne {i j : Nat} {x y : AI} {t : Nat} (hi : as[i]? = some x) (hj : as[j]? = some y) (hne : i ≠ j) (hx : x.dst = some t) : y.dst ≠ some t := by
  intro hy
  have := hok.pair i j x y hi hj hne
  simp [okPair, hx, hy] at this

include hmd in
theorem put_env_ne {a : AI} {s s1 : St} (h : execI ft R a s = some s1) {t : Nat} (ht : a.dst ≠ some t) : s1.env t = s.env t := by
  obtain ⟨v, m, rfl, _⟩ := execI_form hmd h
  unfold St.put
  split
  · rename_i t' hd
    show upd (s.env) t' v t = s.env t
    unfold upd
    rw [if_neg (fun e => ht (by rw [hd, e]))]
  · rfl

include hmd ht in
theorem tr_env0 {t : Nat} : ∀ (k : Nat), k ≤ as.length → (∀ (i : Nat) a, as[i]? = some a → i < k → a.dst ≠ some t) → (p k).env t = (p 0).env t
  | 0, _, _ => rfl
  | k + 1, hk, h => by
    obtain ⟨a, ha⟩ : ∃ a, as[k]? = some a := ⟨_, List.getElem?_eq_getElem (by omega)⟩
    rw [put_env_ne hmd (ht k a ha) (h k a ha (by omega))]
    exact tr_env0 k (by omega) fun i b hb hi => h i b hb (by omega)
/-- Each slot is written once. -/
def DD (as : List AI) : Prop := ∀ (i j : Nat) x y t, as[i]? = some x → as[j]? = some y → i ≠ j → x.dst = some t → y.dst ≠ some t
include hok in
theorem dd_ok : DD as := fun _ _ _ _ _ hi hj hne hx => dst_ne hok hi hj hne hx
include hmd ht in
theorem tr_env1 (hdd : DD as) {i t : Nat} {a : AI} (ha : as[i]? = some a) (hd : a.dst = some t) : ∀ (d : Nat), i + 1 + d ≤ as.length → (p (i + 1 + d)).env t = (p (i + 1)).env t
  | 0, _ => rfl
  | d + 1, hk => by
    obtain ⟨b, hb⟩ : ∃ b, as[i + 1 + d]? = some b := ⟨_, List.getElem?_eq_getElem (by omega)⟩
    rw [← Nat.add_assoc, put_env_ne hmd (ht _ b hb) (hdd _ _ _ _ _ ha hb (by omega) hd)]
    exact tr_env1 hdd ha hd d (by omega)
include hmd ht in
theorem tr_envD (hdd : DD as) {i t k : Nat} {a : AI} (ha : as[i]? = some a) (hd : a.dst = some t) (hik : i < k) (hk : k ≤ as.length) : (p k).env t = (p as.length).env t := by
  obtain ⟨d, rfl⟩ : ∃ d, k = i + 1 + d := ⟨k - (i + 1), by omega⟩
  rw [tr_env1 hmd ht hdd ha hd d hk]
  obtain ⟨e, he⟩ : ∃ e, as.length = i + 1 + e := ⟨as.length - (i + 1), by omega⟩
  rw [he, tr_env1 hmd ht hdd ha hd e (by omega)]
include hmd hok ht in
theorem tr_envn {i t k : Nat} {a : AI} (ha : as[i]? = some a) (hd : a.dst = some t) (hik : i < k) (hk : k ≤ as.length) : (p k).env t = (p as.length).env t := tr_envD hmd ht (dd_ok hok) ha hd hik hk
include hmd ht in
theorem tr_mem {c : Nat} : ∀ (d : Nat), c + d ≤ as.length → (∀ (j : Nat) a, as[j]? = some a → c ≤ j → j < c + d → kind md a.op ≤ 1) → (p (c + d)).mem = (p c).mem
  | 0, _, _ => rfl
  | d + 1, hk, h => by
    obtain ⟨a, ha⟩ : ∃ a, as[c + d]? = some a := ⟨_, List.getElem?_eq_getElem (by omega)⟩
    obtain ⟨v, m, he, h1, _⟩ := execI_form hmd (ht _ a ha)
    rw [← Nat.add_assoc, he, put_setMem]
    show m = _
    rw [h1 (h _ a ha (by omega) (by omega))]
    exact tr_mem d (by omega) fun j b hb h1 h2 => h j b hb h1 (by omega)
include hmd ht in
theorem tr_grow {c : Nat} : ∀ (d : Nat), c + d ≤ as.length → (∀ (j : Nat) a, as[j]? = some a → c ≤ j → j < c + d → kind md a.op ≤ 2) → Grow (p c).mem (p (c + d)).mem
  | 0, _, _ => Grow.refl _
  | d + 1, hk, h => by
    obtain ⟨a, ha⟩ : ∃ a, as[c + d]? = some a := ⟨_, List.getElem?_eq_getElem (by omega)⟩
    obtain ⟨v, m, he, h1, h2, _⟩ := execI_form hmd (ht _ a ha)
    refine (tr_grow d (by omega) fun j b hb h1 h2 => h j b hb h1 (by omega)).trans ?_
    rw [← Nat.add_assoc, he, put_setMem]
    show Grow _ m
    have := h _ a ha (by omega) (by omega)
    by_cases hk1 : kind md a.op ≤ 1
    · rw [h1 hk1]; exact Grow.refl _
    · exact h2 (by omega)

include hmd ht in
theorem tr_keep {t i : Nat} (hk : keeps as i t = true) : ∀ (d : Nat), i + d ≤ as.length → (p (i + d)).env t = (p i).env t
  | 0, _ => rfl
  | d + 1, hd => by
    obtain ⟨b, hb⟩ : ∃ b, as[i + d]? = some b := ⟨_, List.getElem?_eq_getElem (by omega)⟩
    have hne : b.dst ≠ some t := by
      have := List.all_eq_true.1 hk (b, i + d) (by rw [List.mem_zipIdx_iff_getElem?]; exact hb)
      have h2 : i + d < i ∨ ¬b.dst = some t := by simpa using this
      exact h2.resolve_left (by omega)
    rw [← Nat.add_assoc, put_env_ne hmd (ht _ b hb) hne]
    exact tr_keep hk d (by omega)
include hmd ht in
theorem tr_sees (hchk : chkAll chks (p as.length).env = true) {i : Nat} {a : AI} (ha : as[i]? = some a) (hk1 : kind md a.op = 1) : ∀ (d : Nat), i + d ≤ as.length →
    (∀ (j : Nat) b, as[j]? = some b → i ≤ j → j < i + d → 2 ≤ kind md b.op → kind md b.op = 2 ∨ opens as chks i j a b = true) → Sees a.op (p i) (p (i + d)).mem
  | 0, _, _ => Sees.self hk1 _
  | d + 1, hd, h => by
    have ih := tr_sees hchk ha hk1 d (by omega) fun j b hb h1 h2 => h j b hb h1 (by omega)
    obtain ⟨b, hb⟩ : ∃ b, as[i + d]? = some b := ⟨_, List.getElem?_eq_getElem (by omega)⟩
    obtain ⟨v, m, he, h1, h2, _⟩ := execI_form hmd (ht _ b hb)
    have hm : (p (i + d + 1)).mem = m := by rw [he, put_setMem]; rfl
    rw [← Nat.add_assoc]
    by_cases hq : kind md b.op ≤ 1
    · rw [hm, h1 hq]; exact ih
    · rcases h _ b hb (by omega) (by omega) (by omega) with h3 | h3
      · rw [hm]; exact ih.grow hk1 (h2 h3)
      · unfold opens at h3
        split at h3
        · rename_i q w n hop
          rcases execI_store hop (ht _ b hb) with h4 | h4
          · rw [h4]; exact ih
          · refine ih.store h4 ?_
            rcases Bool.or_eq_true _ _ ▸ h3 with h5 | h5
            · exact .inl h5
            · right
              split at h5
              · rename_i a' sz b' hl
                simp only [Bool.and_eq_true, List.contains_iff_mem] at h5
                obtain ⟨h6, h7, h8⟩ := h5
                refine ⟨_, _, hl, ?_⟩
                have h9 := List.all_eq_true.1 hchk _ h6
                simp only at h9
                obtain ⟨e1, he1⟩ : ∃ e1, as.length = i + e1 := ⟨as.length - i, by omega⟩
                obtain ⟨e2, he2⟩ : ∃ e2, as.length = i + d + e2 := ⟨as.length - (i + d), by omega⟩
                have g1 := tr_keep hmd ht h7 e1 (by omega)
                have g2 := tr_keep hmd ht h8 e2 (by omega)
                rw [← he1] at g1
                rw [← he2] at g2
                rw [g1, g2] at h9
                exact h9
              · cases h5
        · rename_i own sb w T n by' hop
          rcases execI_app hop (ht _ b hb) with h4 | ⟨v2, h4⟩
          · rw [h4]; exact ih
          · split at h3
            · rename_i a' off hl
              simp only [Bool.and_eq_true, List.contains_iff_mem] at h3
              obtain ⟨h6, h7, h8⟩ := h3
              have h9 := List.all_eq_true.1 hchk _ h6
              simp only at h9
              obtain ⟨e1, he1⟩ : ∃ e1, as.length = i + e1 := ⟨as.length - i, by omega⟩
              obtain ⟨e2, he2⟩ : ∃ e2, as.length = i + d + e2 := ⟨as.length - (i + d), by omega⟩
              have g1 := tr_keep hmd ht h7 e1 (by omega)
              have g2 := tr_keep hmd ht h8 e2 (by omega)
              rw [← he1] at g1
              rw [← he2] at g2
              rw [g1, g2] at h9
              rw [hl] at ih ⊢
              exact fun v m e => op1_app (ih v m e) h4 h9
            · rename_i a' sz0 hl
              simp only [Bool.and_eq_true, List.contains_iff_mem] at h3
              obtain ⟨h6, h7, h8⟩ := h3
              have h9 := List.all_eq_true.1 hchk _ h6
              simp only at h9
              obtain ⟨e1, he1⟩ : ∃ e1, as.length = i + e1 := ⟨as.length - i, by omega⟩
              obtain ⟨e2, he2⟩ : ∃ e2, as.length = i + d + e2 := ⟨as.length - (i + d), by omega⟩
              have g1 := tr_keep hmd ht h7 e1 (by omega)
              have g2 := tr_keep hmd ht h8 e2 (by omega)
              rw [← he1] at g1
              rw [← he2] at g2
              rw [g1, g2] at h9
              rw [hl] at ih ⊢
              exact fun v m e => op1_appL (ih v m e) h4 h9
            · cases h3
        · split at h3
          · rename_i a' sz0 hl
            simp only [Bool.and_eq_true, List.contains_iff_mem] at h3
            obtain ⟨h6, h7⟩ := h3
            have h9 := List.all_eq_true.1 hchk _ h6
            simp only at h9
            obtain ⟨e1, he1⟩ : ∃ e1, as.length = i + e1 := ⟨as.length - i, by omega⟩
            have g1 := tr_keep hmd ht h7 e1 (by omega)
            rw [← he1] at g1
            rw [g1] at h9
            rw [hl]
            exact Sees.pv h9 _
          · rename_i a' off hl
            simp only [Bool.and_eq_true, List.contains_iff_mem] at h3
            obtain ⟨h6, h7⟩ := h3
            have h9 := List.all_eq_true.1 hchk _ h6
            simp only at h9
            obtain ⟨e1, he1⟩ : ∃ e1, as.length = i + e1 := ⟨as.length - i, by omega⟩
            have g1 := tr_keep hmd ht h7 e1 (by omega)
            rw [← he1] at g1
            rw [g1] at h9
            rw [hl]
            exact Sees.pvA h9 _
          · cases h3
        · cases h3

theorem InvD.init : InvD md as p (fun _ => False) (p 0) :=
  ⟨fun _ _ _ _ h => h.elim, fun _ _ => rfl, 0, Nat.zero_le _, rfl, fun i a _ _ => ⟨fun h => h.elim, fun h => by omega⟩⟩

include hmd ht in
/-- What an operation looks at is as in the text's order. -/
theorem InvD.look (hdd : DD as) {D : Nat → Prop} {s : St} (hI : InvD md as p D s) {i : Nat} {a : AI} (ha : as[i]? = some a) (hD : ¬D i)
    (hdn : ∀ (j : Nat) b t, as[j]? = some b → b.dst = some t → j ≠ i → t ∈ a.names → (j < i → D j) ∧ (i < j → ¬D j)) : ∀ t ∈ a.names, s.env t = (p i).env t := by
  have hil : i < as.length := (List.getElem?_eq_some_iff.1 ha).1
  intro t htn
  by_cases hw : ∃ (j : Nat) (b : AI), as[j]? = some b ∧ b.dst = some t ∧ j ≠ i
  · obtain ⟨j, b, hb, hbd, hne⟩ := hw
    obtain ⟨o1, o2⟩ := hdn j b t hb hbd hne htn
    rcases Nat.lt_or_gt_of_ne hne with hji | hij
    · rw [hI.did j b t hb (o1 hji) hbd, tr_envD hmd ht hdd hb hbd hji (by omega)]
    · rw [hI.not t fun k x hx hDk hxd => ?_, tr_env0 hmd ht i (by omega) fun k x hx hk hxd => ?_]
      · by_cases hkj : k = j
        · subst hkj; omega
        · exact hdd _ _ _ _ _ hb hx (Ne.symm hkj) hbd hxd
      · by_cases hkj : k = j
        · subst hkj; exact o2 hij hDk
        · exact hdd _ _ _ _ _ hb hx (Ne.symm hkj) hbd hxd
  · have hw' : ∀ (j : Nat) b, as[j]? = some b → j ≠ i → b.dst ≠ some t := fun j b hb hne hd => hw ⟨j, b, hb, hd, hne⟩
    rw [hI.not t fun k x hx hDk => hw' k x hx fun e => hD (e ▸ hDk), tr_env0 hmd ht i (by omega) fun k x hx hk => hw' k x hx (by omega)]
include hmd ht in
/-- A step, from what is known of the others. -/
theorem InvD.stepG (hchk : chkAll chks (p as.length).env = true) (hdd : DD as) {D : Nat → Prop} {s : St} (hI : InvD md as p D s) {i : Nat} {a : AI} (ha : as[i]? = some a) (hD : ¬D i)
    (hdn : ∀ (j : Nat) b t, as[j]? = some b → b.dst = some t → j ≠ i → t ∈ a.names → (j < i → D j) ∧ (i < j → ¬D j))
    (hk2 : 2 ≤ kind md a.op → ∀ (j : Nat) b, as[j]? = some b → j ≠ i → 2 ≤ kind md b.op → (j < i → D j) ∧ (i < j → ¬D j))
    (hk1 : kind md a.op = 1 → ∀ (j : Nat) b, as[j]? = some b → 2 ≤ kind md b.op → (j < i → D j) ∧ (i ≤ j → D j → (kind md b.op = 2 ∨ opens as chks i j a b = true) ∧ calls a.op = false)) :
    ∃ s', execI ft R a s = some s' ∧ InvD md as p (fun j => D j ∨ j = i) s' := by
  have hil : i < as.length := (List.getElem?_eq_some_iff.1 ha).1
  have hnames := hI.look hmd ht hdd ha hD hdn
  obtain ⟨v, m, he, h1, h2, h3⟩ := execI_form hmd (ht i a ha)
  obtain ⟨h4, h5⟩ := h3 s hnames
  obtain ⟨c, hc, hmem, hcD⟩ := hI.mem
  have envs : ∀ m', (∃ c, c ≤ as.length ∧ m' = (p c).mem ∧ ∀ (j : Nat) b, as[j]? = some b → 2 ≤ kind md b.op → ((D j ∨ j = i) ↔ j < c)) → InvD md as p (fun j => D j ∨ j = i) ((s.setMem m').put a.dst v) := by
    intro m' hm'
    refine ⟨fun j b t hb hDj hd => ?_, fun t hnot => ?_, by rw [put_setMem]; exact hm'⟩
    · by_cases hji : j = i
      · subst hji
        rw [ha] at hb; cases hb
        rw [← tr_envD hmd ht hdd ha hd (Nat.lt_succ_self j) hil, he]
        simp only [St.put, hd, St.setMem, upd, if_true]
      · have := hI.did j b t hb (hDj.resolve_right hji) hd
        have hne : a.dst ≠ some t := hdd _ _ _ _ _ hb ha hji hd
        rw [← this]
        unfold St.put
        split
        · rename_i t' hd'
          show upd s.env t' v t = s.env t
          unfold upd
          rw [if_neg (fun e => hne (by rw [hd', e]))]
        · rfl
    · have hne : a.dst ≠ some t := hnot i a ha (.inr rfl)
      rw [← hI.not t fun k x hx hDk => hnot k x hx (.inl hDk)]
      unfold St.put
      split
      · rename_i t' hd'
        show upd s.env t' v t = s.env t
        unfold upd
        rw [if_neg (fun e => hne (by rw [hd', e]))]
      · rfl
  by_cases hk : 2 ≤ kind md a.op
  · have hci : c ≤ i := Nat.not_lt.1 fun h => hD ((hcD i a ha hk).2 h)
    have hsame : (p i).mem = (p c).mem := by
      obtain ⟨d, rfl⟩ : ∃ d, i = c + d := ⟨i - c, by omega⟩
      refine tr_mem hmd ht d (by omega) fun j b hb h6 h7 => ?_
      refine Classical.byContradiction fun hn => ?_
      have := (hk2 hk j b hb (by omega) (by omega)).1 h7
      have := (hcD j b hb (by omega)).1 this
      omega
    refine ⟨_, h4 (by rw [hmem, hsame]), envs m ⟨i + 1, by omega, by rw [he, put_setMem]; rfl, fun j b hb hkb => ?_⟩⟩
    by_cases hji : j = i
    · subst hji; simp
    · have ho := hk2 hk j b hb hji hkb
      constructor
      · rintro (hDj | h)
        · have := (hcD j b hb hkb).1 hDj; omega
        · omega
      · intro hlt; exact .inl (ho.1 (by omega))
  · have hk1' : kind md a.op ≤ 1 := by omega
    have out : execI ft R a s = some ((s.setMem s.mem).put a.dst v) := by
      by_cases h0 : kind md a.op = 0
      · exact h5 (.inl h0)
      · have hk1'' : kind md a.op = 1 := by omega
        have hk1 := hk1 hk1''
        by_cases hci : c ≤ i
        · have hsame : (p i).mem = (p c).mem := by
            obtain ⟨d, rfl⟩ : ∃ d, i = c + d := ⟨i - c, by omega⟩
            refine tr_mem hmd ht d (by omega) fun j b hb h6 h7 => ?_
            refine Classical.byContradiction fun hn => ?_
            have := (hk1 j b hb (by omega)).1 h7
            have := (hcD j b hb (by omega)).1 this
            omega
          have hh := h4 (by rw [hmem, hsame])
          rw [h1 hk1'] at hh
          rw [hmem, ← hsame]; exact hh
        · obtain ⟨d, rfl⟩ : ∃ d, c = i + d := ⟨c - i, by omega⟩
          have pr : ∀ (j : Nat) b, as[j]? = some b → i ≤ j → j < i + d → 2 ≤ kind md b.op → (kind md b.op = 2 ∨ opens as chks i j a b = true) ∧ calls a.op = false :=
            fun j b hb h6 h7 h8 => (hk1 j b hb h8).2 h6 ((hcD j b hb h8).2 h7)
          by_cases hany : ∃ (j : Nat) (b : AI), as[j]? = some b ∧ i ≤ j ∧ j < i + d ∧ 2 ≤ kind md b.op
          · obtain ⟨j, b, hb, h6, h7, h8⟩ := hany
            refine h5 (.inr ⟨hk1'', (pr j b hb h6 h7 h8).2, ?_⟩)
            rw [hmem]
            exact tr_sees hmd ht hchk ha hk1'' d hc fun j b hb h6 h7 h8 => (pr j b hb h6 h7 h8).1
          · have hsame : (p (i + d)).mem = (p i).mem := tr_mem hmd ht d hc fun j b hb h6 h7 => Nat.le_of_not_lt fun hn => hany ⟨j, b, hb, h6, h7, hn⟩
            have hh := h4 (by rw [hmem, hsame])
            rw [h1 hk1'] at hh
            rw [hmem, hsame]; exact hh
    refine ⟨_, out, envs _ ⟨c, hc, hmem, fun j b hb hkb => ?_⟩⟩
    have hji : j ≠ i := fun e => by subst e; rw [ha] at hb; cases hb; omega
    rw [← hcD j b hb hkb]
    exact ⟨fun h => h.resolve_right hji, .inl⟩
include hmd hok ht in
theorem InvD.step (hchk : chkAll chks (p as.length).env = true) {D : Nat → Prop} {s : St} (hI : InvD md as p D s) (hcl : ∀ (i : Nat) l, ps[i]? = some l → D i → ∀ q ∈ l, D q) {i : Nat} {a : AI} (ha : as[i]? = some a) (hD : ¬D i) (hp : ∀ l, ps[i]? = some l → ∀ q ∈ l, D q) :
    ∃ s', execI ft R a s = some s' ∧ InvD md as p (fun j => D j ∨ j = i) s' := by
  have hil : i < as.length := (List.getElem?_eq_some_iff.1 ha).1
  have ord : ∀ {j : Nat}, j ≠ i → ordered (ancs ps []) i j = true → (j < i → D j) ∧ (i < j → ¬D j) := by
    intro j hne ho
    unfold ordered at ho
    split at ho
    · rename_i hij
      refine ⟨fun h => by omega, fun _ hDj => hD ?_⟩
      have hj := anc_none ho
      exact anc_closed hok.lt hcl j _ (List.getElem?_eq_getElem hj) (hcl j _ (List.getElem?_eq_getElem hj) hDj) i ho
    · have hi := anc_none ho
      exact ⟨fun _ => anc_closed hok.lt hcl i _ (List.getElem?_eq_getElem hi) (hp _ (List.getElem?_eq_getElem hi)) j ho, fun h => by omega⟩
  refine hI.stepG hmd ht hchk (dd_ok hok) ha hD (fun j b t hb hbd hne htn => ?_) (fun hk j b hb hne hkb => ?_) (fun hk1' j b hb hkb => ?_)
  · have hpr := hok.pair i j a b ha hb (Ne.symm hne)
    simp only [okPair, hbd, Bool.and_eq_true, Bool.or_eq_true, Bool.not_eq_true'] at hpr
    exact ord hne (hpr.1.2.resolve_left (by simp [htn]))
  · have hpr := hok.pair i j a b ha hb (Ne.symm hne)
    simp only [okPair, Bool.and_eq_true] at hpr
    have hpr := hpr.2
    have ho : ordered (ancs ps []) i j = true := by split at hpr <;> first | omega | exact hpr
    exact ord hne ho
  · have hji : j ≠ i := fun e => by subst e; rw [ha] at hb; cases hb; omega
    have hpr := hok.pair i j a b ha hb (Ne.symm hji)
    simp only [okPair, Bool.and_eq_true, hk1'] at hpr
    have hpr := hpr.2
    refine ⟨fun hlt => ?_, fun hle hDj => ?_⟩
    · have hord : ordered (ancs ps []) i j = true := by
        split at hpr <;> first | omega | exact hpr | skip
        all_goals
          simp only [Bool.or_eq_true, Bool.and_eq_true, decide_eq_true_eq] at hpr
          exact hpr.resolve_right (by omega)
      exact (ord hji hord).1 hlt
    · have no : ¬ordered (ancs ps []) i j = true := fun ho => (ord hji ho).2 (by omega) hDj
      split at hpr <;> first | omega | exact absurd hpr no | skip
      · simp only [Bool.or_eq_true, Bool.and_eq_true, decide_eq_true_eq, Bool.not_eq_true'] at hpr
        exact ⟨.inl (by assumption), (hpr.resolve_left no).2⟩
      · simp only [Bool.or_eq_true, Bool.and_eq_true, decide_eq_true_eq] at hpr
        have hop := (hpr.resolve_left no).2
        refine ⟨.inr hop, ?_⟩
        unfold opens at hop
        split at hop
        · rcases Bool.or_eq_true _ _ ▸ hop with h9 | h9
          · cases hao : a.op <;> rw [hao] at h9 <;> simp [still] at h9 <;> rfl
          · split at h9
            · have hl : ∃ t sz, a.op = .load (.t t) sz := ⟨_, _, by assumption⟩
              obtain ⟨_, _, hl⟩ := hl
              rw [hl]; rfl
            · cases h9
        · split at hop
          · have hl : ∃ t off, a.op = .addr (.t t) off := ⟨_, _, by assumption⟩
            obtain ⟨_, _, hl⟩ := hl
            rw [hl]; rfl
          · have hl : ∃ t off, a.op = .load (.t t) off := ⟨_, _, by assumption⟩
            obtain ⟨_, _, hl⟩ := hl
            rw [hl]; rfl
          · cases hop
        · split at hop
          · have hl : ∃ t off, a.op = .load (.t t) off := ⟨_, _, by assumption⟩
            obtain ⟨_, _, hl⟩ := hl
            rw [hl]; rfl
          · have hl : ∃ t off, a.op = .addr (.t t) off := ⟨_, _, by assumption⟩
            obtain ⟨_, _, hl⟩ := hl
            rw [hl]; rfl
          · cases hop
        · cases hop
include hmd hok ht in
theorem InvD.all {D : Nat → Prop} {s : St} (hI : InvD md as p D s) (hD : ∀ i, i < as.length → D i) : s = p as.length := by
  obtain ⟨c, hc, hmem, hcD⟩ := hI.mem
  have hm : s.mem = (p as.length).mem := by
    obtain ⟨d, hd⟩ : ∃ d, as.length = c + d := ⟨as.length - c, by omega⟩
    rw [hmem, hd]
    refine (tr_mem hmd ht d (by omega) fun j b hb h1 h2 => ?_).symm
    refine Classical.byContradiction fun hn => ?_
    have := (hcD j b hb (by omega)).1 (hD j (by omega))
    omega
  have he : s.env = (p as.length).env := by
    funext t
    by_cases hw : ∃ (i : Nat) (a : AI), as[i]? = some a ∧ a.dst = some t
    · obtain ⟨i, a, ha, hd⟩ := hw
      exact hI.did i a t ha (hD i (List.getElem?_eq_some_iff.1 ha).1) hd
    · rw [hI.not t fun i a ha _ hd => hw ⟨i, a, ha, hd⟩, tr_env0 hmd ht as.length (Nat.le_refl _) fun i a ha _ hd => hw ⟨i, a, ha, hd⟩]
  cases s
  cases hp : p as.length
  rw [hp] at hm he
  simp only at hm he
  rw [hm, he]
end
end Go.Ab
end

section
/-
  Calls: by value, with the memory shared.
-/
namespace Go.Ab
section
variable {C : Cx} {N N' N1 : Nat → Nat → Prop} {z z0 z1 : Z} {w : World}

theorem nil_Rep (hm : z1.m = .nil) (hh : z.h = z1.h) (hX : ∀ b o, X C.P N z b o → N1 b o) : ∀ (n : Nat) {a : AV} {v : Value}, Rep C.P N1 z1 n a v → Rep C.P N z n a v
  | 0, _, _, h => h.elim
  | n + 1, a, v, h => by
    have ih : ∀ a u, Rep C.P N1 z1 n a u → Rep C.P N z n a u := fun _ _ h => nil_Rep hm hh hX n h
    have hat : ∀ {e : AV} {b o : Nat}, AtI C.P N1 z1 (Rep C.P N1 z1 n) e b o → AtI C.P N z (Rep C.P N z n) e b o := fun h j a ha =>
      let ⟨u, h1, h2, h3, h4⟩ := h j a ha
      ⟨u, by rw [hh]; exact h1, fun hx => h2 (.inl (hX _ _ hx)), h3, ih _ _ h4⟩
    cases a with
    | agg cs => obtain ⟨us, hv, hr⟩ := h; exact ⟨us, hv, hr.mono ih⟩
    | tup cs => obtain ⟨us, hv, hr⟩ := h; exact ⟨us, hv, hr.mono ih⟩
    | sl es tk =>
      obtain ⟨a, cap, st, hv, h1, h1', h2, h3, h4, h5⟩ := h
      refine ⟨a, cap, st, hv, h1, h1', h2, h3, fun i e he => let ⟨b, o, h6, h7⟩ := h4 i e he; ⟨b, o, h6, hat h7⟩, ?_⟩
      cases tk with
      | unk => trivial
      | tight => exact h5
      | _ =>
        rename_i t
        have := h5.1
        rw [hm] at this
        simp [Mem.nil] at this
    | pv e off => obtain ⟨b, o, hv, h1⟩ := h; exact ⟨b, o, hv, hat h1⟩
    | fn f first cap => obtain ⟨fs, cs, hv, h1, h2⟩ := h; exact ⟨fs, cs, hv, h1.mono ih, h2.mono ih⟩
    | ref id off len => have := h.1; rw [hm] at this; simp [Mem.nil] at this
    | ptr id ix off => have := h.1; rw [hm] at this; simp [Mem.nil] at this
    | yld id => have := h.1; rw [hm] at this; simp [Mem.nil] at this
    | mp id => have := h.1; rw [hm] at this; simp [Mem.nil] at this
    | itr id => have := h.1; rw [hm] at this; simp [Mem.nil] at this
    | aps id ix off n => have := h.1; rw [hm] at this; simp [Mem.nil] at this
    | _ => exact h
theorem nil_R (hm : z1.m = .nil) (hh : z.h = z1.h) (hX : ∀ b o, X C.P N z b o → N1 b o) {a : AV} {v : Value} (h : R C.P N1 z1 a v) : R C.P N z a v :=
  let ⟨n, h⟩ := h; ⟨n, nil_Rep hm hh hX n h⟩

/-- The tables, and the functions: what the abstract program says of the program. -/
structure Cx.OK (C : Cx) : Prop where
  glob : ∀ g e, C.G g = some e → hot dep (.pv e 0) = false ∧ ∀ m, snap m dep (.pv e 0) = .pv e 0
  md : ∀ f fn, C.ft f = some fn → fn.md = C.md f
  fns : ∀ f fn, C.ft f = some fn → trFn C.P C.G C.md C.own f = some fn
  names : ∀ f fn F, C.ft f = some fn → C.P.funcs[f]? = some F → (F.name == "runtime.NumGoroutine") = false
  mixed : C.P.follows .mixedOrders = true

/-- What a call comes to. -/
def CallOK (C : Cx) (N : Nat → Nat → Prop) (z : Z) (m' : Mem) (v : AV) (w : World) : Ending → World → Prop
  | .returned v', w' => ∃ z', R C.P N z' v v' ∧ Good C N z' ∧ Tr C.P N z z' ∧ z'.h = w'.heap ∧ z'.m = m' ∧ WS w w'
  | _, _ => False

structure WideF (F : Fence) : Prop where
  fn : ∀ f, F.fn f
  depth : F.depth.isSome = false

def RunF (C : Cx) (R' : Run) : Prop := ∀ f args m v m', R' (.f f) args m = some (v, m') → ∀ (N : Nat → Nat → Prop) (z : Z) (w : World) (us : Array Value), Good C N z → z.h = w.heap → z.m = m → RL (R C.P N z) args us.toList →
  ∀ (F : Fence) (k : Nat), WideF F → CallsIn F k C.P f us w (CallOK C N z m' v w)

def Z.bare (z : Z) : Z := { z with m := .nil }

theorem good_bare (hC : C.OK) (hG : Good C N z) (hN : ∀ b o, N' b o → X C.P N z b o) : Good C N' z.bare := by
  have hmn : z.bare.m = .nil := rfl
  constructor
  · intro id es sz h; simp [Z.bare, Mem.nil] at h
  · intro t n T h; simp [Z.bare, Mem.nil] at h
  · intro id id' k k' h; simp [Z.bare, Mem.nil] at h
  · intro id k t x h; simp [Z.bare, Mem.nil] at h
  · intro t t' x x' h; simp [Z.bare, Mem.nil] at h
  · intro id es sz h; simp [Z.bare, Mem.nil] at h
  · intro t n T h; simp [Z.bare, Mem.nil] at h
  · intro b o h
    rcases hN b o h with h1 | ⟨id, es, sz, h1, h2⟩ | ⟨t, n, T, h1, h2, _⟩
    · exact hG.no b o h1
    · rw [← h2]; exact hG.rho_lt h1 (by simp)
    · rw [← h2]; exact hG.tau_lt h1
  · intro id env ps asg body rdy pend h; simp [Z.bare, Mem.nil] at h
  · intro g e h
    obtain ⟨h1, h2⟩ := hC.glob g e h
    have := snap_R (z0 := z.bare) (N' := N') hG rfl rfl hN dep (hG.glob g e h) (.inr h1)
    rw [h2] at this; exact this
  · intro id kvs ek h; simp [Z.bare, Mem.nil] at h

theorem RL_snap (hG : Good C N z) (hN : ∀ b o, N' b o → X C.P N z b o) {args : List AV} {us : List Value} (hr : RL (R C.P N z) args us) (hc : (∀ b o, N' b o → N b o) ∨ ∀ a ∈ args, hot dep a = false) : RL (R C.P N' z.bare) (args.map (snap z.m dep)) us :=
  RL_map hr fun a ha _ hu => snap_R (z0 := z.bare) hG rfl rfl hN dep hu (hc.imp id fun h => h a ha)

theorem bare_ext (hG : Good C N z) (hT : Tr C.P N' z.bare z1) : z.h.size ≤ z1.h.size ∧ ∀ b, b < z.h.size → z1.h[b]? = z.h[b]? := by
  refine ⟨hT.size, fun b hb => hT.other b hb ?_⟩
  rintro (⟨id, k, h1, _⟩ | ⟨t, x, h1, _⟩)
  · simp [Z.bare, Mem.nil] at h1
  · simp [Z.bare, Mem.nil] at h1

/-- A call by value. -/
theorem callV_sound (hC : C.OK) {R' : Run} (hR : RunF C R') (hG : Good C N z) (hh : z.h = w.heap) {f : FuncId} {args : List AV} {us : Array Value} (hr : RL (R C.P N z) args us.toList) {v : AV} (h : callV R' f (args.map (snap z.m dep)) = some v)
    (hc : (args.all (fun a => !hot dep a) || plain dep v) = true) {F : Fence} {k : Nat} (hF : WideF F) : CallsIn F k C.P f us w (CallOK C N z z.m v w) := by
  unfold callV at h
  obtain ⟨⟨v1, m1⟩, h1, rfl⟩ := Option.map_eq_some_iff.1 h
  simp only at hc
  by_cases hcold : args.all (fun a => !hot dep a) = true
  · have hcold : ∀ a ∈ args, hot dep a = false := fun a ha => by have := List.all_eq_true.1 hcold a ha; simpa using this
    have hN : ∀ b o, X C.P N z b o → X C.P N z b o := fun _ _ h => h
    refine CallsIn.mono (hR f _ _ _ _ h1 (X C.P N z) z.bare w us (good_bare hC hG hN) hh rfl (RL_snap hG hN hr (.inr hcold)) F k hF) fun e w' he => ?_
    cases e with
    | returned v' =>
      obtain ⟨z1, g1, g2, g3, g4, g5, g6⟩ := he
      obtain ⟨e1, e2⟩ := bare_ext hG g3
      refine ⟨{ z with h := z1.h }, ?_, good_ext e1 e2 hG, tr_ext e1 e2 hG, g4, rfl, g6⟩
      have h2 := snap_R (z0 := z1.bare) g2 rfl rfl (fun _ _ h => .inl h) dep g1 (.inl fun _ _ h => h)
      rw [g5] at h2
      exact nil_R (z := { z with h := z1.h }) (z1 := z1.bare) rfl rfl (fun _ _ h => h) h2
    | panicked _ => exact he
    | outgrown => exact he
  · have hpl : plain dep (snap m1 dep v1) = true := by simpa [hcold] using hc
    have hN : ∀ b o, N b o → X C.P N z b o := fun _ _ h => .inl h
    refine CallsIn.mono (hR f _ _ _ _ h1 N z.bare w us (good_bare hC hG hN) hh rfl (RL_snap hG hN hr (.inl fun _ _ h => h)) F k hF) fun e w' he => ?_
    cases e with
    | returned v' =>
      obtain ⟨z1, g1, g2, g3, g4, g5, g6⟩ := he
      obtain ⟨e1, e2⟩ := bare_ext hG g3
      refine ⟨{ z with h := z1.h }, ?_, good_ext e1 e2 hG, tr_ext e1 e2 hG, g4, rfl, g6⟩
      have h2 := snap_R (z0 := z1.bare) g2 rfl rfl (fun _ _ h => .inl h) dep g1 (.inl fun _ _ h => h)
      rw [g5] at h2
      exact plain_R dep hpl h2
    | panicked _ => exact he
    | outgrown => exact he
end
end Go.Ab
end

section
/-
  Calls whose result is new memory.
-/
namespace Go.Ab
section
variable {C : Cx} {N N' : Nat → Nat → Prop} {z z1 z2 : Z} {w : World}

theorem shift_notAgg {db dt k : Nat} {a : AV} (h : ∀ cs, a ≠ .agg cs) : (shift db dt k a).cells = [shift db dt k a] := by
  cases k with
  | zero => cases a <;> first | rfl | exact absurd rfl (h _)
  | succ k =>
    cases a with
    | agg cs => exact absurd rfl (h _)
    | sl es tk => cases tk <;> rfl
    | _ => rfl
theorem shift_len (db dt k : Nat) (a : AV) : (shift db dt k a).cells.length = a.cells.length := by
  by_cases h : ∃ cs, a = .agg cs
  · obtain ⟨cs, rfl⟩ := h
    cases k with
    | zero => exact undefd_len _
    | succ k => simp [shift, AV.cells]
  · have h : ∀ cs, a ≠ .agg cs := fun cs e => h ⟨cs, e⟩
    rw [shift_notAgg h, cells_notAgg h]; rfl
theorem ownly_cell {j : Nat} {a b : AV} {i : Nat} (h : ownly j a = true) (hb : a.cells[i]? = some b) : ∃ j', ownly j' b = true := by
  by_cases hg : ∃ cs, a = .agg cs
  · obtain ⟨cs, rfl⟩ := hg
    cases j with
    | zero => simp [ownly] at h
    | succ j =>
      simp only [ownly, List.all_eq_true] at h
      exact ⟨j, h b (List.mem_of_getElem? hb)⟩
  · have hg : ∀ cs, a ≠ .agg cs := fun cs e => hg ⟨cs, e⟩
    rw [cells_notAgg hg] at hb
    cases i with
    | zero => simp at hb; subst hb; exact ⟨j, h⟩
    | succ i => simp at hb
theorem shift_cell {db dt k : Nat} {a c : AV} {j : Nat} (h : (shift db dt k a).cells[j]? = some c) : ∃ b, a.cells[j]? = some b ∧ (c = .undef ∨ ∃ k', k' ≤ k ∧ c = shift db dt k' b) := by
  by_cases hg : ∃ cs, a = .agg cs
  · obtain ⟨cs, rfl⟩ := hg
    cases k with
    | zero => obtain ⟨h1, b, h2⟩ := undefd_cell h; exact ⟨b, h2, .inl h1⟩
    | succ k =>
      simp only [shift, AV.cells, List.getElem?_map, Option.map_eq_some_iff] at h
      obtain ⟨b, h1, rfl⟩ := h
      exact ⟨b, h1, .inr ⟨k, by omega, rfl⟩⟩
  · have hg : ∀ cs, a ≠ .agg cs := fun cs e => hg ⟨cs, e⟩
    rw [shift_notAgg hg] at h
    rw [cells_notAgg hg]
    cases j with
    | zero => simp at h; exact ⟨a, rfl, .inr ⟨k, Nat.le_refl _, h.symm⟩⟩
    | succ j => simp at h

/-- The callee's memory behind the caller's. -/
def Z.join (z z1 : Z) (k : Nat) : Z :=
  ⟨z1.h, fun id => if id < z.m.blks.length then z.ρ id else z1.ρ (id - z.m.blks.length), fun t => if t < z.m.toks.length then z.τ t else z1.τ (t - z.m.toks.length), joinMem z.m z1.m k⟩

theorem join_blk {k id : Nat} {b : Blk} (h : (z.join z1 k).m.blks[id]? = some b) : (id < z.m.blks.length ∧ z.m.blks[id]? = some b ∧ (z.join z1 k).ρ id = z.ρ id) ∨
    (∃ i b1, id = z.m.blks.length + i ∧ z1.m.blks[i]? = some b1 ∧ b = shiftB z.m.blks.length z.m.toks.length k b1 ∧ (z.join z1 k).ρ id = z1.ρ i) := by
  simp only [Z.join, joinMem] at h
  by_cases hi : id < z.m.blks.length
  · rw [List.getElem?_append_left hi] at h
    exact .inl ⟨hi, h, by simp [Z.join, hi]⟩
  · rw [List.getElem?_append_right (by omega), List.getElem?_map, Option.map_eq_some_iff] at h
    obtain ⟨b1, h1, rfl⟩ := h
    exact .inr ⟨id - z.m.blks.length, b1, by omega, h1, rfl, by simp [Z.join, hi]⟩
theorem join_tok {k t : Nat} {x : Nat × Nat} (h : (z.join z1 k).m.toks[t]? = some x) : (t < z.m.toks.length ∧ z.m.toks[t]? = some x ∧ (z.join z1 k).τ t = z.τ t) ∨
    (∃ i, t = z.m.toks.length + i ∧ z1.m.toks[i]? = some x ∧ (z.join z1 k).τ t = z1.τ i) := by
  simp only [Z.join, joinMem] at h
  by_cases hi : t < z.m.toks.length
  · rw [List.getElem?_append_left hi] at h
    exact .inl ⟨hi, h, by simp [Z.join, hi]⟩
  · rw [List.getElem?_append_right (by omega)] at h
    exact .inr ⟨t - z.m.toks.length, by omega, h, by simp [Z.join, hi]⟩
theorem shiftB_live {db dt k : Nat} {b : Blk} {es : List AV} {sz : Nat} (h : Blk.live es sz = shiftB db dt k b) : ∃ es0, b = .live es0 sz ∧ es = es0.map (shift db dt k) := by
  cases b with
  | live es0 n => simp only [shiftB, Blk.live.injEq] at h; obtain ⟨rfl, rfl⟩ := h; exact ⟨es0, rfl, rfl⟩
  | _ => cases h

theorem join_at (z z1 : Z) (k i : Nat) : (z.join z1 k).m.blks[z.m.blks.length + i]? = (z1.m.blks[i]?).map (shiftB z.m.blks.length z.m.toks.length k) := by
  simp only [Z.join, joinMem]
  rw [List.getElem?_append_right (by omega), List.getElem?_map]; congr 2; omega
theorem join_rho (z z1 : Z) (k i : Nat) : (z.join z1 k).ρ (z.m.blks.length + i) = z1.ρ i := by simp [Z.join]; omega
theorem join_tau (z z1 : Z) (k i : Nat) : (z.join z1 k).τ (z.m.toks.length + i) = z1.τ i := by simp [Z.join]; omega
theorem join_tk (z z1 : Z) (k i : Nat) : (z.join z1 k).m.toks[z.m.toks.length + i]? = z1.m.toks[i]? := by
  simp only [Z.join, joinMem]
  rw [List.getElem?_append_right (by omega)]; congr 1; omega

theorem shift_R (q : Nat) : ∀ (k : Nat) {a : AV} {v : Value}, R C.P N' z1 a v → ((∀ b o, X C.P N (z.join z1 q) b o → X C.P N' z1 b o) ∨ ∃ j, ownly j a = true) → R C.P N (z.join z1 q) (shift z.m.blks.length z.m.toks.length k a) v := by
  intro k
  induction k using Nat.strongRecOn with
  | _ k ih =>
    cases k with
    | zero => intro a v h _; exact undefd_R h
    | succ k =>
      have at1 : ∀ (k' : Nat) {e : AV} {b o : Nat}, k' ≤ k → AtI C.P N' z1 (R C.P N' z1) e b o → (∀ b o, X C.P N (z.join z1 q) b o → X C.P N' z1 b o) → AtI C.P N (z.join z1 q) (R C.P N (z.join z1 q)) (shift z.m.blks.length z.m.toks.length k' e) b o := by
        intro k' e b o hk h hX j c hj
        obtain ⟨a, h1, h2⟩ := shift_cell hj
        obtain ⟨u, h3, h4, h5, h6⟩ := h j a h1
        refine ⟨u, h3, fun hx => h4 (hX _ _ hx), h5, ?_⟩
        rcases h2 with rfl | ⟨k2, h7, rfl⟩
        · exact R_undef _
        · exact ih k2 (by omega) h6 (.inl hX)
      have sub : ∀ {cs : List AV} {us : List Value}, RL (R C.P N' z1) cs us → ((∀ b o, X C.P N (z.join z1 q) b o → X C.P N' z1 b o) ∨ ∀ a ∈ cs, ∃ j, ownly j a = true) → RL (R C.P N (z.join z1 q)) (cs.map (shift z.m.blks.length z.m.toks.length k)) us :=
        fun hr hc => RL_map hr fun a ha u hu => ih k (by omega) hu (hc.imp id fun h => h a ha)
      intro a v h hc
      cases a with
      | undef => exact R_undef _
      | bool b => exact R_bool.2 (R_bool.1 h)
      | int q n => exact R_int.2 (R_int.1 h)
      | str s => exact R_str.2 (R_str.1 h)
      | nilf => exact R_nilf.2 (R_nilf.1 h)
      | nilp => exact R_nilp.2 (R_nilp.1 h)
      | nilm => exact R_nilm.2 (R_nilm.1 h)
      | yld id => exact R_undef _
      | mp id => exact R_undef _
      | itr id => exact R_undef _
      | aps id ix off n => exact R_undef _
      | agg cs =>
        obtain ⟨us, rfl, h1⟩ := R_agg.1 h
        refine R_agg.2 ⟨us, rfl, sub h1 (hc.imp id fun ⟨j, hj⟩ a ha => ?_)⟩
        cases j with
        | zero => simp [ownly] at hj
        | succ j => simp only [ownly, List.all_eq_true] at hj; exact ⟨j, hj a ha⟩
      | tup cs =>
        obtain ⟨us, rfl, h1⟩ := R_tup.1 h
        refine R_tup.2 ⟨us, rfl, sub h1 (hc.imp id fun ⟨j, hj⟩ a ha => ?_)⟩
        cases j with
        | zero => simp [ownly] at hj
        | succ j => simp only [ownly, List.all_eq_true] at hj; exact ⟨j, hj a ha⟩
      | fn f first cap =>
        have hX := hc.resolve_right fun ⟨j, hj⟩ => by cases j <;> simp [ownly] at hj
        obtain ⟨fs, cs, rfl, h1, h2⟩ := R_fn.1 h
        exact R_fn.2 ⟨fs, cs, rfl, sub h1 (.inl hX), sub h2 (.inl hX)⟩
      | pv e off =>
        have hX := hc.resolve_right fun ⟨j, hj⟩ => by cases j <;> simp [ownly] at hj
        obtain ⟨b, o, rfl, h1⟩ := R_pv.1 h
        exact R_pv.2 ⟨b, o, rfl, at1 k (Nat.le_refl _) h1 hX⟩
      | sl es tk =>
        obtain ⟨a, cap, st, rfl, h1, h2, h3, h4, h5, h6⟩ := R_sl.1 h
        have hes : (∀ b o, X C.P N (z.join z1 q) b o → X C.P N' z1 b o) ∨ es = [] := hc.imp id fun ⟨j, hj⟩ => by
          cases j with
          | zero => simp [ownly] at hj
          | succ j => cases es with
            | nil => rfl
            | cons e es => simp [ownly] at hj
        have main : ∀ tk', TkRep (z.join z1 q) (es.map (shift z.m.blks.length z.m.toks.length k)).length st a cap tk' → R C.P N (z.join z1 q) (.sl (es.map (shift z.m.blks.length z.m.toks.length k)) tk') (.slice a es.length cap) := by
          intro tk' htk
          refine R_sl.2 ⟨a, cap, st, by simp, by simpa using h1, h2, h3, fun e he => ?_, fun i e he => ?_, htk⟩
          · obtain ⟨e0, he0, rfl⟩ := List.mem_map.1 he
            rw [shift_len]; exact h4 e0 he0
          · simp only [List.getElem?_map, Option.map_eq_some_iff] at he
            obtain ⟨e0, he0, rfl⟩ := he
            obtain ⟨b, o, rfl, h7⟩ := h5 i e0 he0
            refine ⟨b, o, rfl, at1 k (Nat.le_refl _) h7 (hes.resolve_right fun e => ?_)⟩
            subst e; simp at he0
        cases tk with
        | unk => exact main .unk trivial
        | tight => exact main .tight (by simpa [TkRep] using h6)
        | _ =>
          rename_i t
          refine main (.at (z.m.toks.length + t)) ⟨?_, fun n T ht => ?_⟩
          · have := h6.1; simp only [Z.join, joinMem, List.length_append]; omega
          · rw [join_tk] at ht
            have := h6.2 n T ht
            rw [join_tau]
            exact ⟨by simpa using this.1, fun e => this.2 (by simpa using e)⟩
      | ref id off len =>
        obtain ⟨h1, h2, h3⟩ := R_ref.1 h
        refine R_ref.2 ⟨?_, h2, fun es sz hb => ?_⟩
        · simp only [Z.join, joinMem, List.length_append, List.length_map]; omega
        · rw [join_at, Option.map_eq_some_iff] at hb
          obtain ⟨b1, h4, h5⟩ := hb
          obtain ⟨es0, rfl, _⟩ := shiftB_live h5.symm
          rw [join_rho]
          exact h3 es0 sz h4
      | ptr id ix off =>
        obtain ⟨h1, h2, h3⟩ := R_ptr.1 h
        refine R_ptr.2 ⟨?_, h2, fun es sz hb => ?_⟩
        · simp only [Z.join, joinMem, List.length_append, List.length_map]; omega
        · rw [join_at, Option.map_eq_some_iff] at hb
          obtain ⟨b1, h4, h5⟩ := hb
          obtain ⟨es0, rfl, _⟩ := shiftB_live h5.symm
          rw [join_rho]
          exact h3 es0 sz h4

/-- What the callee owns is new. -/
theorem own_new (hT : Tr C.P N' z.bare z1) {b : Nat} (h : Own z1 b) : z.h.size ≤ b := by
  refine Classical.byContradiction fun hn => ?_
  rcases hT.own b (by show b < z.h.size; omega) h with ⟨id, k, h1, _⟩ | ⟨t, x, h1, _⟩
  · simp [Z.bare, Mem.nil] at h1
  · simp [Z.bare, Mem.nil] at h1

theorem join_tr (hG : Good C N z) (hT : Tr C.P N' z.bare z1) (q : Nat) : Tr C.P N z (z.join z1 q) := by
  obtain ⟨e1, e2⟩ := bare_ext hG hT
  constructor
  · exact e1
  · intro b j u h _; show cellAt z1.h b j = _; unfold cellAt at *; rw [e2 b (cellAt_lt h)]; exact h
  · intro b o hb hx
    rcases hx with hx | ⟨id, es, sz, h1, h2⟩ | ⟨t, n, T, h1, h2, h3⟩
    · exact .inl hx
    · rcases join_blk h1 with ⟨_, g2, g3⟩ | ⟨i, b1, _, g2, g3, g4⟩
      · exact .inr (.inl ⟨id, es, sz, g2, g3.symm.trans h2⟩)
      · obtain ⟨es0, rfl, _⟩ := shiftB_live g3
        have := own_new hT (.inl ⟨i, _, g2, by simp, rfl⟩)
        rw [g4] at h2; omega
    · rcases join_tok h1 with ⟨_, g2, g3⟩ | ⟨i, _, g2, g3⟩
      · exact .inr (.inr ⟨t, n, T, g2, g3.symm.trans h2, h3⟩)
      · have := own_new hT (.inr ⟨i, _, g2, rfl⟩)
        rw [g3] at h2; omega
  · intro b hb _; exact e2 b hb
  · intro b hb ho
    rcases ho with ⟨id, k, h1, h2, h3⟩ | ⟨t, x, h1, h2⟩
    · rcases join_blk h1 with ⟨_, g2, g3⟩ | ⟨i, b1, _, g2, g3, g4⟩
      · exact .inl ⟨id, k, g2, h2, g3.symm.trans h3⟩
      · have hd : b1 ≠ .dead := fun e => h2 (by rw [g3, e]; rfl)
        have := own_new hT (.inl ⟨i, _, g2, hd, rfl⟩)
        rw [g4] at h3; omega
    · rcases join_tok h1 with ⟨_, g2, g3⟩ | ⟨i, _, g2, g3⟩
      · exact .inr ⟨t, x, g2, g3.symm.trans h2⟩
      · have := own_new hT (.inr ⟨i, _, g2, rfl⟩)
        rw [g3] at h2; omega
  · simp [Z.join, joinMem]
  · intro id hid; simp [Z.join, hid]
  · intro id hid es sz h
    rcases join_blk h with ⟨_, g2, _⟩ | ⟨i, _, h1, _⟩
    · exact ⟨⟨es, g2⟩, by show csize z1.h _ = _; unfold csize; rw [e2 _ (hG.rho_lt g2 (by simp))]⟩
    · omega
  · simp [Z.join, joinMem]
  · intro t ht n T h
    rcases join_tok h with ⟨_, g2, g3⟩ | ⟨i, h1, _⟩
    · exact ⟨n, g2, Nat.le_refl _, fun _ => ⟨g3, by show csize z1.h _ = _; unfold csize; rw [e2 _ (hG.tau_lt g2)]⟩⟩
    · omega
  · intro b l h; exact ⟨l, by show z1.h[b]? = _; rw [e2 b (Array.getElem?_eq_some_iff.1 h).1]; exact h⟩

theorem join_good (hG : Good C N z) (hT : Tr C.P N' z.bare z1) (hG1 : Good C N' z1) (hN : ∀ b o, N b o → N' b o) (q : Nat)
    (hX : (∀ b o, X C.P N (z.join z1 q) b o → X C.P N' z1 b o) ∨ ∀ (i : Nat) es sz, z1.m.blks[i]? = some (.live es sz) → ∀ e ∈ es, ∃ j, ownly j e = true) : Good C N (z.join z1 q) := by
  obtain ⟨e1, e2⟩ := bare_ext hG hT
  have hT2 := join_tr hG hT q
  have nd : ∀ {b1 : Blk}, shiftB z.m.blks.length z.m.toks.length q b1 ≠ .dead → b1 ≠ .dead := fun h e => h (by rw [e]; rfl)
  constructor
  · intro id es sz h
    rcases join_blk h with ⟨_, g2, g3⟩ | ⟨i, b1, _, g2, g3, g4⟩
    · obtain ⟨cs, T, h2, h3, h4⟩ := hG.live id es sz g2
      exact ⟨cs, T, by rw [g3]; exact (e2 _ (hG.rho_lt g2 (by simp))).trans h2, h3, fun i e he => ⟨(h4 i e he).1, fun j a ha => let ⟨u, h5, h6, h7⟩ := (h4 i e he).2 j a ha; ⟨u, h5, h6, R_step hT2 h7⟩⟩⟩
    · obtain ⟨es0, rfl, rfl⟩ := shiftB_live g3
      obtain ⟨cs, T, h2, h3, h4⟩ := hG1.live i es0 sz g2
      refine ⟨cs, T, by rw [g4]; exact h2, by simpa using h3, fun i2 e he => ?_⟩
      simp only [List.getElem?_map, Option.map_eq_some_iff] at he
      obtain ⟨e0, he0, rfl⟩ := he
      refine ⟨by rw [shift_len]; exact (h4 i2 e0 he0).1, fun j c hc => ?_⟩
      obtain ⟨b, h5, h6⟩ := shift_cell hc
      obtain ⟨u, h7, h8, h9⟩ := (h4 i2 e0 he0).2 j b h5
      refine ⟨u, h7, h8, ?_⟩
      rcases h6 with rfl | ⟨k', _, rfl⟩
      · exact R_undef _
      · exact shift_R q k' h9 (hX.imp (fun h => h) fun hx => by
          obtain ⟨j', hj'⟩ := hx i es0 sz g2 e0 (List.mem_of_getElem? he0)
          exact ownly_cell hj' h5)
  · intro t n T h
    rcases join_tok h with ⟨_, g2, g3⟩ | ⟨i, _, g2, g3⟩
    · obtain ⟨cs, cap, h1, h2⟩ := hG.tok t n T g2
      exact ⟨cs, cap, by rw [g3]; exact (e2 _ (hG.tau_lt g2)).trans h1, h2⟩
    · rw [g3]; exact hG1.tok i n T g2
  · intro id id' k k' h h' d d' e
    rcases join_blk h with ⟨_, g2, g3⟩ | ⟨i, b1, hi, g2, g3, g4⟩ <;> rcases join_blk h' with ⟨_, g2', g3'⟩ | ⟨i', b1', hi', g2', g3', g4'⟩
    · rw [g3, g3'] at e; exact hG.rr id id' k k' g2 g2' d d' e
    · have := own_new hT (.inl ⟨i', _, g2', nd (g3' ▸ d'), rfl⟩)
      have := hG.rho_lt g2 d
      rw [g3, g4'] at e; omega
    · have := own_new hT (.inl ⟨i, _, g2, nd (g3 ▸ d), rfl⟩)
      have := hG.rho_lt g2' d'
      rw [g3', g4] at e; omega
    · rw [g4, g4'] at e
      have := hG1.rr i i' _ _ g2 g2' (nd (g3 ▸ d)) (nd (g3' ▸ d')) e
      omega
  · intro id k t x h d h' e
    rcases join_blk h with ⟨_, g2, g3⟩ | ⟨i, b1, hi, g2, g3, g4⟩ <;> rcases join_tok h' with ⟨_, g2', g3'⟩ | ⟨i', hi', g2', g3'⟩
    · rw [g3, g3'] at e; exact hG.rt id k t x g2 d g2' e
    · have := own_new hT (.inr ⟨i', _, g2', rfl⟩)
      have := hG.rho_lt g2 d
      rw [g3, g3'] at e; omega
    · have := own_new hT (.inl ⟨i, _, g2, nd (g3 ▸ d), rfl⟩)
      have := hG.tau_lt g2'
      rw [g3', g4] at e; omega
    · rw [g4, g3'] at e; exact hG1.rt i _ i' x g2 (nd (g3 ▸ d)) g2' e
  · intro t t' x x' h h' e
    rcases join_tok h with ⟨_, g2, g3⟩ | ⟨i, hi, g2, g3⟩ <;> rcases join_tok h' with ⟨_, g2', g3'⟩ | ⟨i', hi', g2', g3'⟩
    · rw [g3, g3'] at e; exact hG.tt t t' x x' g2 g2' e
    · have := own_new hT (.inr ⟨i', _, g2', rfl⟩)
      have := hG.tau_lt g2
      rw [g3, g3'] at e; omega
    · have := own_new hT (.inr ⟨i, _, g2, rfl⟩)
      have := hG.tau_lt g2'
      rw [g3', g3] at e; omega
    · rw [g3, g3'] at e
      have := hG1.tt i i' x x' g2 g2' e
      omega
  · intro id es sz h o hn
    rcases join_blk h with ⟨_, g2, g3⟩ | ⟨i, b1, _, g2, g3, g4⟩
    · rw [g3] at hn; exact hG.nl id es sz g2 o hn
    · obtain ⟨es0, rfl, _⟩ := shiftB_live g3
      rw [g4] at hn; exact hG1.nl i es0 sz g2 o (hN _ _ hn)
  · intro t n T h o ho hn
    rcases join_tok h with ⟨_, g2, g3⟩ | ⟨i, _, g2, g3⟩
    · rw [g3] at hn; exact hG.nt t n T g2 o ho hn
    · rw [g3] at hn; exact hG1.nt i n T g2 o ho (hN _ _ hn)
  · intro b o hn; exact Nat.lt_of_lt_of_le (hG.no b o hn) e1
  · intro id env ps asg body rdy pend h
    rcases join_blk h with ⟨_, g2, g3⟩ | ⟨i, b1, _, g2, g3, g4⟩
    · obtain ⟨L, h2, h3, h4, h5, h6, h6', h7, h8, h9⟩ := hG.lp id env ps asg body rdy pend g2
      exact ⟨L, by rw [g3]; exact (e2 _ (hG.rho_lt g2 (by simp))).trans h2, h3, h4, h5, h6, h6', fun t => R_step hT2 (h7 t), h8, h9⟩
    · cases b1 <;> cases g3
  · intro g e h; exact R_step hT2 (hG.glob g e h)
  · intro id kvs ek h
    rcases join_blk h with ⟨_, g2, g3⟩ | ⟨i, b1, _, g2, g3, g4⟩
    · obtain ⟨es, clock, h2, h3⟩ := hG.mp id kvs ek g2
      exact ⟨es, clock, by rw [g3]; exact (e2 _ (hG.rho_lt g2 (by simp))).trans h2, h3.step hT2⟩
    · cases b1 <;> cases g3

/-- A call whose result is new memory. -/
theorem callO_sound (hC : C.OK) {R' : Run} (hR : RunF C R') (hG : Good C N z) (hh : z.h = w.heap) {f : FuncId} {args : List AV} {us : Array Value} (hr : RL (R C.P N z) args us.toList) {v1 : AV} {m1 : Mem}
    (h : R' (.f f) (args.map (snap z.m dep)) .nil = some (v1, m1)) (hc : (args.all (fun a => !hot dep a) || (ownly dep v1 && m1.blks.all Blk.ownly)) = true) {F : Fence} {k : Nat} (hF : WideF F) :
    CallsIn F k C.P f us w (CallOK C N z (joinMem z.m m1 dep) (shift z.m.blks.length z.m.toks.length dep v1) w) := by
  by_cases hcold : args.all (fun a => !hot dep a) = true
  · have hcold : ∀ a ∈ args, hot dep a = false := fun a ha => by have := List.all_eq_true.1 hcold a ha; simpa using this
    have hN : ∀ b o, X C.P N z b o → X C.P N z b o := fun _ _ h => h
    refine CallsIn.mono (hR f _ _ _ _ h (X C.P N z) z.bare w us (good_bare hC hG hN) hh rfl (RL_snap hG hN hr (.inr hcold)) F k hF) fun e w' he => ?_
    cases e with
    | returned v' =>
      obtain ⟨z1, g1, g2, g3, g4, g5, g6⟩ := he
      have hX : ∀ b o, X C.P N (z.join z1 dep) b o → X C.P (X C.P N z) z1 b o := by
        intro b o hx
        rcases hx with hx | ⟨id, es, sz, h1, h2⟩ | ⟨t, n, T, h1, h2, h3⟩
        · exact .inl (.inl hx)
        · rcases join_blk h1 with ⟨_, q2, q3⟩ | ⟨i, b1, _, q2, q3, q4⟩
          · exact .inl (.inr (.inl ⟨id, es, sz, q2, q3.symm.trans h2⟩))
          · obtain ⟨es0, rfl, _⟩ := shiftB_live q3
            exact .inr (.inl ⟨i, es0, sz, q2, q4.symm.trans h2⟩)
        · rcases join_tok h1 with ⟨_, q2, q3⟩ | ⟨i, _, q2, q3⟩
          · exact .inl (.inr (.inr ⟨t, n, T, q2, q3.symm.trans h2, h3⟩))
          · exact .inr (.inr ⟨i, n, T, q2, q3.symm.trans h2, h3⟩)
      refine ⟨z.join z1 dep, shift_R dep dep g1 (.inl hX), join_good hG g3 g2 (fun _ _ h => .inl h) dep (.inl hX), join_tr hG g3 dep, g4, by show joinMem z.m z1.m dep = _; rw [g5], g6⟩
    | panicked _ => exact he
    | outgrown => exact he
  · have how : ownly dep v1 = true ∧ m1.blks.all Blk.ownly = true := by simpa [hcold] using hc
    have hN : ∀ b o, N b o → X C.P N z b o := fun _ _ h => .inl h
    refine CallsIn.mono (hR f _ _ _ _ h N z.bare w us (good_bare hC hG hN) hh rfl (RL_snap hG hN hr (.inl fun _ _ h => h)) F k hF) fun e w' he => ?_
    cases e with
    | returned v' =>
      obtain ⟨z1, g1, g2, g3, g4, g5, g6⟩ := he
      refine ⟨z.join z1 dep, shift_R dep dep g1 (.inr ⟨_, how.1⟩), join_good hG g3 g2 (fun _ _ h => h) dep (.inr fun i es sz hb e he => ?_), join_tr hG g3 dep, g4, by show joinMem z.m z1.m dep = _; rw [g5], g6⟩
      rw [g5] at hb
      have := List.all_eq_true.1 how.2 _ (List.mem_of_getElem? hb)
      simp only [Blk.ownly, List.all_eq_true] at this
      exact ⟨11, this e he⟩
    | panicked _ => exact he
    | outgrown => exact he
end
end Go.Ab
end

section
/-
  One operation, calls and all.
-/
namespace Go.Ab

theorem cb {α : Type} {o : Option α} {f : α → Option AOp} {ao : AOp} (h : o.bind f = some ao) (k : ∀ x, f x = some ao → calls ao = false) : calls ao = false := by
  obtain ⟨x, _, h⟩ := Option.bind_eq_some_iff.1 h
  exact k x h
theorem cm {α : Type} {o : Option α} {f : α → AOp} {ao : AOp} (h : o.map f = some ao) (k : ∀ x, calls (f x) = false) : calls ao = false := by
  obtain ⟨x, _, rfl⟩ := Option.map_eq_some_iff.1 h
  exact k x
theorem trOp_nocall {P : Program} {G : Nat → Option AV} {ow : Ow} {op : Op} {ao : AOp} (hn : ∀ c, op ≠ .call c) (h : trOp P G ow op = some ao) : calls ao = false := by
  cases op <;> simp only [trOp] at h <;> first
    | exact absurd rfl (hn _)
    | (cases h; done)
    | repeat' (first | (cases h; done) | (cases h; rfl) | exact absurd ‹_ = Op.call _› (hn _) | exact cm h fun _ => rfl | refine cb h fun _ h => ?_ | split at h)
theorem onto0_calls (f : Bool) (ops : Array Oper) (o : AOp) : calls (onto0 f ops o) = calls o := by
  unfold onto0
  split
  · split <;> rfl
  · split <;> rfl
  · rfl

section
variable {C : Cx} {N N' : Nat → Nat → Prop} {z z1 z2 : Z} {w : World}

def RunY (C : Cx) (R' : Run) : Prop := ∀ id args m v m', R' (.y id) args m = some (v, m') → ∀ (N : Nat → Nat → Prop) (z : Z) (w : World) (us : Array Value), Good C N z → z.h = w.heap → z.m = m → RL (R C.P N z) args us.toList →
  ∃ L : Loop, z.h[z.ρ id]? = some (.loop L) ∧ us.size = L.params.size ∧ ∀ (F : Fence) (k : Nat), WideF F →
    RoundIn F k C.P (z.ρ id) L.fn ((L.params.zip us).foldl (fun tmps (t, a) => tmps.setIfInBounds t a) L.tmps) L.assign L.body w (CallOK C N z m' v w)

/-- What a step leaves. -/
def Step (C : Cx) (N : Nat → Nat → Prop) (z : Z) (a : Act) (w : World) (s1 : St) (a' : Act) (w' : World) : Prop :=
  ∃ z', Good C N z' ∧ Tr C.P N z z' ∧ z'.h = w'.heap ∧ z'.m = s1.mem ∧ EnvOK C N z' s1.env a' ∧ a'.tmps.size = a.tmps.size ∧ a'.defers = a.defers ∧ WS w w'

theorem env_put {env : Nat → AV} {a : Act} (he : EnvOK C N z env a) (hT : Tr C.P N z z1) {d : Option Nat} {v : AV} {v' : Value} (hv : R C.P N z1 v v') (hd : ∀ t, d = some t → t < a.tmps.size) {s : St} (hs : s.env = env) :
    EnvOK C N z1 (s.put d v).env (a.put d v') := by
  subst hs
  intro t
  cases d with
  | none => exact R_step hT (he t)
  | some d =>
    have hdl := hd d rfl
    simp only [St.put, Act.put, upd]
    by_cases ht : t = d
    · subst ht
      rw [if_pos rfl]
      have : (a.tmps.setIfInBounds t v').getD t undef = v' := by
        simp [Array.getD_eq_getD_getElem?, Array.getElem?_setIfInBounds_self_of_lt hdl]
      rw [this]; exact hv
    · rw [if_neg ht]
      have : (a.tmps.setIfInBounds d v').getD t undef = a.tmps.getD t undef := by
        simp [Array.getD_eq_getD_getElem?, Array.getElem?_setIfInBounds_ne (Ne.symm ht)]
      rw [this]; exact R_step hT (he t)
theorem put_mem (s : St) (d : Option Nat) (v : AV) : (s.put d v).mem = s.mem := by cases d <;> rfl
theorem put_size (a : Act) (d : Option Tmp) (v : Value) : (a.put d v).tmps.size = a.tmps.size := by cases d <;> simp [Act.put]
theorem put_defers (a : Act) (d : Option Tmp) (v : Value) : (a.put d v).defers = a.defers := by cases d <;> rfl
theorem step_put {s : St} {a : Act} {w' : World} (he : EnvOK C N z s.env a) {v : AV} {v' : Value} (hv : R C.P N z1 v v') (hG : Good C N z1) (hT : Tr C.P N z z1) (hh : z1.h = w'.heap) {m : Mem} (hm : z1.m = m) (hw : WS w w')
    {d : Option Nat} (hd : ∀ t, d = some t → t < a.tmps.size) : Step C N z a w ((s.setMem m).put d v) (a.put d v') w' :=
  ⟨z1, hG, hT, hh, by rw [put_mem]; exact hm, env_put he hT hv hd rfl, put_size _ _ _, put_defers _ _ _, hw⟩

theorem call_ret {s : St} {a : Act} {o : Oper} {m : Mem} {v : AV} (he : EnvOK C N z s.env a) (hd : ∀ t, o.dst = some t → t < a.tmps.size) {K : Act → World → Prop}
    (hK : ∀ a' w', Step C N z a w ((s.setMem m).put o.dst v) a' w' → K a' w') {v' : Value} {w' : World} (h : CallOK C N z m v w (.returned v') w') : K (a.put o.dst v') w' := by
  obtain ⟨z1, g1, g2, g3, g4, g5, g6⟩ := h
  exact hK _ _ (step_put he g1 g2 g3 g4 g5 g6 hd)

/-- A call, in the mode of its callee. -/
theorem callBy_sound (hC : C.OK) {R' : Run} (hR : RunF C R') (hG : Good C N z) (hh : z.h = w.heap) {s s1 : St} (hm : z.m = s.mem) {f : FuncId} {args : List AV} {us : Array Value} (hr : RL (R C.P N z) args us.toList) {v : AV}
    (h : callBy C.ft R' f args s = some (v, s1)) {F : Fence} {k : Nat} (hF : WideF F) : (∃ fn, C.ft f = some fn) ∧ s1 = s.setMem s1.mem ∧ CallsIn F k C.P f us w (CallOK C N z s1.mem v w) := by
  have hs1 := callBy_env h
  unfold callBy at h
  split at h
  · cases h
  · rename_i fn hf
    refine ⟨⟨fn, hf⟩, hs1, ?_⟩
    split at h
    · simp only [Option.bind_eq_some_iff] at h
      obtain ⟨u, h1, h⟩ := h
      split at h
      · rename_i hc
        cases h
        rw [← hm] at h1 ⊢
        exact callV_sound hC hR hG hh hr h1 hc hF
      · cases h
    · simp only [Option.bind_eq_some_iff] at h
      obtain ⟨⟨v1, m1⟩, h1, h⟩ := h
      split at h
      · rename_i hc
        cases h
        simp only [St.setMem]
        rw [← hm] at h1 ⊢
        exact callO_sound hC hR hG hh hr h1 hc hF
      · cases h
    · obtain ⟨⟨v1, m1⟩, h1, h⟩ := Option.map_eq_some_iff.1 h
      cases h
      exact hR _ _ _ _ _ h1 N z w us hG hh hm hr F k hF

theorem callFz_sound (hC : C.OK) {R' : Run} (hR : RunF C R') (hG : Good C N z) (hh : z.h = w.heap) {s s1 : St} (hm : z.m = s.mem) {f : FuncId} {args : List AV} {us : Array Value} (hr : RL (R C.P N z) args us.toList) {v : AV}
    (h : callFz C.ft R' f args s = some (v, s1)) {F : Fence} {k : Nat} (hF : WideF F) : (∃ fn, C.ft f = some fn) ∧ CallsIn F k C.P f us w (CallOK C N z s1.mem v w) := by
  have hs1 := callFz_env h
  unfold callFz at h
  split at h
  · cases h
  · rename_i fn hf
    refine ⟨⟨fn, hf⟩, ?_⟩
    simp only [Option.bind_eq_some_iff] at h
    obtain ⟨u, h1, h⟩ := h
    split at h
    · rename_i hc
      cases h
      rw [← hm] at h1 ⊢
      exact callV_sound hC hR hG hh hr h1 hc hF
    · cases h

theorem callZ_sound (hC : C.OK) {R' : Run} (hR : RunF C R') (hG : Good C N z) (hh : z.h = w.heap) {s s1 : St} (hm : z.m = s.mem) {g : FuncId} {first cap args : List AV} {us : Array Value} (hr : RL (R C.P N z) (first ++ args ++ cap) us.toList) {v : AV}
    (h : callZ C.ft R' (.fn g first cap) args s = some (v, s1)) {F : Fence} {k : Nat} (hF : WideF F) : (∃ fn, C.ft g = some fn) ∧ CallsIn F k C.P g us w (CallOK C N z s1.mem v w) :=
  callFz_sound hC hR hG hh hm hr h hF

theorem enters (hC : C.OK) {f : FuncId} {fn : AFn} (hf : C.ft f = some fn) (us : Array Value) (w : World) : (callFunc f us).run C.P w = .ok (.enter f us) w := by
  have h := hC.fns f fn hf
  simp only [trFn, bind, Option.bind_eq_some_iff] at h
  obtain ⟨F, h1, c, h2, _⟩ := h
  have h3 : F.name ≠ "runtime.NumGoroutine" := by simpa using hC.names f fn F hf h1
  simp [callFunc, h1, h3, h2]

theorem oper_sound (hC : C.OK) {R' : Run} (hR : RunF C R') (hY : RunY C R') (hG : Good C N z) (hh : z.h = w.heap) {s s1 : St} (hm : z.m = s.mem) {a : Act} (he : EnvOK C N z s.env a) {o : Oper} {ow : Ow} {ops : Array Oper} {ao : AOp}
    (htr : (trOp C.P C.G ow o.op).map (onto0 ow.f0 ops) = some ao) (hd : ∀ t, o.dst = some t → t < a.tmps.size) {v : AV} (h : exec1 C.ft R' s ao = some (v, s1)) {K : Act → World → Prop} {Q : Exit → Act → World → Prop}
    (hK : ∀ a' w', Step C N z a w (s1.put o.dst v) a' w' → K a' w') {F : Fence} {k : Nat} (hF : WideF F) : o.wpIn F k C.P a w K Q := by
  have hs1 := exec1_env h
  rw [hs1] at hK
  have hdef : ∀ c, o.op ≠ .defer c := by
    intro c hc
    rw [hc] at htr
    simp [trOp] at htr
  have hn : F.depth.isSome = true → 1 ≤ k := fun h => by rw [hF.depth] at h; cases h
  refine ⟨fun f _ => hF.fn f, ?_⟩
  rw [Oper.semAt_plain F _ _ hdef]
  cases hc : calls ao with
  | false =>
    obtain ⟨v', w', z', hr, h1, h2, h3, h4, h5, h6⟩ := op1_sound hG hh hm he htr (exec1_op hc h)
    rcases hr with hr | ⟨hr, hv⟩
    · rw [hr, Oper.uponIn_value]
      exact hK _ _ (step_put he h1 h2 h3 h4 h5 h6 hd)
    · rw [hr, Oper.uponIn_skip]
      subst hv
      exact hK _ _ (step_put he h1 h2 h3 h4 h5 h6 hd)
  | true =>
    obtain ⟨ao0, h0, rfl⟩ := Option.map_eq_some_iff.1 htr
    rw [onto0_calls] at hc
    obtain ⟨c, hop⟩ : ∃ c, o.op = .call c := by
      refine Classical.byContradiction fun hno => ?_
      have := trOp_nocall (fun c hc => hno ⟨c, hc⟩) h0
      rw [this] at hc; cases hc
    have hargs : ∀ {xs : List Src}, c.args.toList.mapM (trX C.G) = some xs → RL (R C.P N z) (xs.map s.ev) (c.args.map a.eval).toList := fun h => by
      rw [Array.toList_map]; exact mapX_sound hG he h
    have hsem : execOp a.eval o = (do let d ← resolve a.eval c o.type; invoke d.target d.args) := by unfold execOp; rw [hop]
    rw [hsem]
    rw [hop] at h0
    have done : ∀ {g : FuncId} {first cap : List AV} {fs cs : Array Value} {xs : List Src} {x : Operand}, c.callee = .value x → a.eval x = .func (.func g) fs cs → RL (R C.P N z) first fs.toList → RL (R C.P N z) cap cs.toList →
        c.args.toList.mapM (trX C.G) = some xs → (∀ us : Array Value, RL (R C.P N z) (first ++ xs.map s.ev ++ cap) us.toList → (∃ fn, C.ft g = some fn) ∧ CallsIn F (k - 1) C.P g us w (CallOK C N z s1.mem v w)) →
        Oper.uponIn F k C.P o a K Q ((do let d ← resolve a.eval c o.type; invoke d.target d.args : Sem Next).run C.P w) := by
      intro g first cap fs cs xs x h1 h2 h3 h4 h5 h6
      have happ : ∀ {as bs : List AV} {us vs : List Value}, RL (R C.P N z) as us → RL (R C.P N z) bs vs → RL (R C.P N z) (as ++ bs) (us ++ vs) := by
        intro as bs us vs h7 h8
        refine ⟨by simp [h7.1, h8.1], fun i b u hb hu => ?_⟩
        by_cases hi : i < as.length
        · rw [List.getElem?_append_left hi] at hb
          rw [List.getElem?_append_left (by rw [← h7.1]; exact hi)] at hu
          exact h7.2 i b u hb hu
        · rw [List.getElem?_append_right (by omega)] at hb
          rw [List.getElem?_append_right (by rw [← h7.1]; omega), ← h7.1] at hu
          exact h8.2 _ b u hb hu
      have hr : RL (R C.P N z) (first ++ xs.map s.ev ++ cap) (fs ++ c.args.map a.eval ++ cs).toList := by
        rw [Array.toList_append, Array.toList_append]
        exact happ (happ h3 (hargs h5)) h4
      obtain ⟨⟨fn, hfn⟩, hcall⟩ := h6 _ hr
      have hrun : ((do let d ← resolve a.eval c o.type; invoke d.target d.args : Sem Next).run C.P w) = .ok (.enter g (fs ++ c.args.map a.eval ++ cs)) w := by
        simp only [resolve, h1, h2, Deferred.ofValue, pure_bind, invoke]
        exact enters hC hfn _ w
      rw [hrun, Oper.uponIn_enter]
      refine ⟨hn, CallsIn.mono hcall fun e w' hp => ?_⟩
      cases e with
      | returned v' => exact call_ret he hd hK hp
      | panicked _ => exact hp.elim
      | outgrown => exact hp.elim
    simp only [trOp] at h0
    split at h0
    · split at h0
      · exact absurd hc (by rw [cm h0 fun _ => rfl]; simp)
      · exact absurd hc (by rw [cm h0 fun _ => rfl]; simp)
      · exact absurd hc (by rw [cm h0 fun _ => rfl]; simp)
      · cases h0
    · split at h0
      · exact absurd hc (by rw [cm h0 fun _ => rfl]; simp)
      · cases h0
    · have : calls ao0 = false := by
        repeat' (first | (cases h0; done) | (cases h0; rfl) | refine cb h0 fun _ h0 => ?_ | split at h0)
      rw [this] at hc; cases hc
    · have : calls ao0 = false := by
        repeat' (first | (cases h0; done) | (cases h0; rfl) | refine cb h0 fun _ h0 => ?_ | split at h0)
      rw [this] at hc; cases hc
    · have : calls ao0 = false := by
        repeat' (first | (cases h0; done) | (cases h0; rfl) | refine cb h0 fun _ h0 => ?_ | split at h0)
      rw [this] at hc; cases hc
    · have : calls ao0 = false := by
        repeat' (first | (cases h0; done) | (cases h0; rfl) | refine cb h0 fun _ h0 => ?_ | split at h0)
      rw [this] at hc; cases hc
    · have : calls ao0 = false := by
        repeat' (first | (cases h0; done) | (cases h0; rfl) | refine cb h0 fun _ h0 => ?_ | split at h0)
      rw [this] at hc; cases hc
    · have : calls ao0 = false := by
        repeat' (first | (cases h0; done) | (cases h0; rfl) | refine cb h0 fun _ h0 => ?_ | split at h0)
      rw [this] at hc; cases hc
    · have : calls ao0 = false := by
        repeat' (first | (cases h0; done) | (cases h0; rfl) | refine cb h0 fun _ h0 => ?_ | split at h0)
      rw [this] at hc; cases hc
    · have : calls ao0 = false := by
        repeat' (first | (cases h0; done) | (cases h0; rfl) | refine cb h0 fun _ h0 => ?_ | split at h0)
      rw [this] at hc; cases hc
    · rename_i f h1
      simp only [bind, Option.bind_eq_some_iff, pure, Option.some.injEq] at h0
      obtain ⟨xs, h2, rfl⟩ := h0
      refine done (first := []) (cap := []) (fs := #[]) (cs := #[]) h1 rfl ⟨rfl, fun i b u hb => by simp at hb⟩ ⟨rfl, fun i b u hb => by simp at hb⟩ h2 fun us hr => ?_
      simp only [List.nil_append, List.append_nil] at hr
      by_cases hfz : ow.fz.contains f = true
      · rw [if_pos hfz] at h
        simp only [onto0, exec1] at h
        exact callFz_sound hC hR hG hh hm hr h hF
      · rw [if_neg hfz] at h
        simp only [onto0, exec1] at h
        obtain ⟨g1, _, g3⟩ := callBy_sound hC hR hG hh hm hr h (k := k - 1) hF
        exact ⟨g1, g3⟩
    · rename_i f _ h1
      simp only [bind, Option.bind_eq_some_iff, pure, Option.some.injEq] at h0
      obtain ⟨sf, h2, xs, h3, rfl⟩ := h0
      have hf := trX_sound hG he h2
      by_cases hz : (ow.fz.contains 1000000 || ow.fz.contains (zslot sf)) = true
      · rw [if_pos hz] at h
        simp only [onto0, exec1] at h
        cases hfe : s.ev sf with
        | fn g first cap =>
          rw [hfe] at hf h
          obtain ⟨fs, cs, h4, h5, h6⟩ := R_fn.1 hf
          exact done h1 h4 h5 h6 h3 fun us hr => callZ_sound hC hR hG hh hm hr h hF
        | _ => rw [hfe] at h; cases h
      rw [if_neg hz] at h
      simp only [onto0, exec1, callAny] at h
      split at h
      · rename_i g first cap hfe
        rw [hfe] at hf
        obtain ⟨fs, cs, h4, h5, h6⟩ := R_fn.1 hf
        refine done h1 h4 h5 h6 h3 fun us hr => ?_
        obtain ⟨g1, _, g3⟩ := callBy_sound hC hR hG hh hm hr h (k := k - 1) hF
        exact ⟨g1, g3⟩
      · rename_i id hfe
        rw [hfe] at hf
        obtain ⟨h4, h5⟩ := R_yld.1 hf
        obtain ⟨⟨v1, m1⟩, h6, h7⟩ := Option.map_eq_some_iff.1 h
        cases h7
        obtain ⟨L, h8, h9, h10⟩ := hY _ _ _ _ _ h6 N z w _ hG hh hm (hargs h3)
        have hrun : ((do let d ← resolve a.eval c o.type; invoke d.target d.args : Sem Next).run C.P w) =
            .ok (.round (z.ρ id) L.fn ((L.params.zip (c.args.map a.eval)).foldl (fun tmps (t, a) => tmps.setIfInBounds t a) L.tmps) L.assign L.body) w := by
          simp only [resolve, h1, h5, Deferred.ofValue, pure_bind, invoke]
          rw [show (#[] ++ c.args.map a.eval : Array Value) = c.args.map a.eval by simp]
          exact run_yield (by rw [← hh]; exact h8) h9
        rw [hrun, Oper.uponIn_round]
        refine ⟨hn, RoundIn.mono (h10 F (k - 1) hF) fun e w' hp => ?_⟩
        cases e with
        | returned v' => exact call_ret he hd hK hp
        | panicked _ => exact hp.elim
        | outgrown => exact hp.elim
      · cases h
    · cases h0
end
end Go.Ab
end

section
/-
  Regions: in the text's order, and in any.
-/
namespace Go.Ab
section
variable {C : Cx} {N N' : Nat → Nat → Prop} {z z1 z2 : Z} {w : World}

theorem Step.trans {a a1 a2 : Act} {w1 w2 : World} {s2 : St} (hT : Tr C.P N z z1) (hs : a1.tmps.size = a.tmps.size) (hd : a1.defers = a.defers) (hw : WS w w1) (h : Step C N z1 a1 w1 s2 a2 w2) : Step C N z a w s2 a2 w2 := by
  obtain ⟨z2, g1, g2, g3, g4, g5, g6, g7, g8⟩ := h
  exact ⟨z2, g1, hT.trans g2, g3, g4, g5, g6.trans hs, g7.trans hd, hw.trans g8⟩

theorem trOper_parts {ow : Ow} {nt : Nat} {ops : Array Oper} {o : Oper} {ai : AI} (h : trOper C.P C.G ow nt ops o = some ai) : ai.dst = o.dst ∧ (∀ t, o.dst = some t → t < nt) ∧ (trOp C.P C.G ow o.op).map (onto0 ow.f0 ops) = some ai.op ∧
    ((o.guard = none ∧ ai.gd = none) ∨ ∃ j b o' t, o.guard = some (j, b) ∧ ops[j]? = some o' ∧ o'.dst = some t ∧ ai.gd = some (t, b)) := by
  have fin : (do
      let op ← (trOp C.P C.G ow o.op).map (onto0 ow.f0 ops)
      let gd ← (match o.guard with
        | none => some none
        | some (j, b) => do
          let o' ← ops[j]?
          let t ← o'.dst
          pure (some (t, b)))
      pure (⟨o.dst, gd, op⟩ : AI) : Option AI) = some ai → ai.dst = o.dst ∧ (trOp C.P C.G ow o.op).map (onto0 ow.f0 ops) = some ai.op ∧
        ((o.guard = none ∧ ai.gd = none) ∨ ∃ j b o' t, o.guard = some (j, b) ∧ ops[j]? = some o' ∧ o'.dst = some t ∧ ai.gd = some (t, b)) := by
    intro h
    simp only [bind, Option.bind_eq_some_iff, pure, Option.some.injEq] at h
    obtain ⟨ao, h1, gd, h2, rfl⟩ := h
    refine ⟨rfl, h1, ?_⟩
    split at h2
    · rename_i hg; cases h2; exact .inl ⟨hg, rfl⟩
    · rename_i j b hg
      simp only [Option.bind_eq_some_iff, Option.some.injEq] at h2
      obtain ⟨o', h3, t, h4, rfl⟩ := h2
      exact .inr ⟨j, b, o', t, hg, h3, h4, rfl⟩
  unfold trOper at h
  cases hd : o.dst with
  | none =>
    simp only [hd, Bool.false_eq_true, if_false] at h
    simp only [hd] at fin
    obtain ⟨g1, g2, g3⟩ := fin h
    refine ⟨g1, ?_, g2, g3⟩
    intro t ht
    cases ht
  | some t0 =>
    simp only [hd, decide_eq_true_eq] at h
    simp only [hd] at fin
    by_cases hnt : nt ≤ t0
    · rw [if_pos hnt] at h; cases h
    · rw [if_neg hnt] at h
      obtain ⟨g1, g2, g3⟩ := fin h
      refine ⟨g1, ?_, g2, g3⟩
      intro t ht
      cases ht
      exact Nat.lt_of_not_le hnt

theorem yields {a : Act} {env : Nat → AV} (he : EnvOK C N z env a) {ops : Array Oper} {j t : Nat} {o' : Oper} (h1 : ops[j]? = some o') (h2 : o'.dst = some t) {b : Bool} (hb : env t = .bool b) : yielded ops a.tmps j = some b := by
  have h3 := he t
  rw [hb] at h3
  have h3 := R_bool.1 h3
  have h4 : a.tmps[t]? = some (.bool b) := by
    cases h : a.tmps[t]? with
    | none => rw [Array.getD_eq_getD_getElem?, h] at h3; cases h3
    | some v => rw [Array.getD_eq_getD_getElem?, h] at h3; simp at h3; rw [h3]
  simp [yielded, h1, h2, h4]

theorem R_skip {P : Program} {N : Nat → Nat → Prop} {z : Z} : R P N z (.tup []) undef := (R_tup (cs := [])).2 ⟨#[], rfl, rfl, fun i a u h => by cases h⟩
theorem yields_none {a : Act} {env : Nat → AV} (he : EnvOK C N z env a) {ops : Array Oper} {j t : Nat} {o' : Oper} (h1 : ops[j]? = some o') (h2 : o'.dst = some t) (hb : env t = .tup []) : yielded ops a.tmps j = none := by
  have h3 := he t
  rw [hb] at h3
  obtain ⟨us, h3, h4⟩ := R_tup.1 h3
  have h4' : us.toList = [] := by cases hl : us.toList with | nil => rfl | cons x r => rw [hl] at h4; exact (by have := h4.1; simp at this)
  cases h : a.tmps[t]? with
  | none => simp [yielded, h1, h2, h]
  | some v =>
    rw [Array.getD_eq_getD_getElem?, h] at h3
    simp only [Option.getD_some] at h3
    subst h3
    simp [yielded, h1, h2, h]

theorem operI_sound (hC : C.OK) {R' : Run} (hR : RunF C R') (hY : RunY C R') (hG : Good C N z) (hh : z.h = w.heap) {s s1 : St} (hm : z.m = s.mem) {a : Act} (he : EnvOK C N z s.env a) {o : Oper} {ow : Ow} {ops : Array Oper} {ai : AI}
    (htr : trOper C.P C.G ow a.tmps.size ops o = some ai) (h : execI C.ft R' ai s = some s1) {K : Act → World → Prop} {Q : Exit → Act → World → Prop}
    (hK : ∀ a' w', Step C N z a w s1 a' w' → K a' w') {F : Fence} {k : Nat} (hF : WideF F) :
    if Region.wanted o (yielded ops a.tmps) then o.wpIn F k C.P a w K Q else (∀ f, o.about C.P w a.eval = some f → F.fn f) ∧ K (a.put o.dst undef) w := by
  obtain ⟨h1, h2, h3, h4⟩ := trOper_parts htr
  have go : ∀ {v : AV} {s2 : St}, exec1 C.ft R' s ai.op = some (v, s2) → s1 = s2.put ai.dst v → o.wpIn F k C.P a w K Q := fun he1 hs => by
    subst hs
    rw [h1] at hK
    exact oper_sound hC hR hY hG hh hm he h3 h2 he1 hK hF
  unfold execI at h
  rcases h4 with ⟨hg, hag⟩ | ⟨j, b, o', t, hg, ho', hd', hag⟩
  · rw [hag] at h
    obtain ⟨⟨v, s2⟩, he1, h5⟩ := Option.map_eq_some_iff.1 h
    have : Region.wanted o (yielded ops a.tmps) = true := by simp [Region.wanted, hg]
    rw [if_pos this]
    exact go he1 h5.symm
  · rw [hag] at h
    simp only at h
    split at h
    · rename_i b' hb
      have hy := yields he ho' hd' hb
      split at h
      · rename_i hbb
        obtain ⟨⟨v, s2⟩, he1, h5⟩ := Option.map_eq_some_iff.1 h
        have : Region.wanted o (yielded ops a.tmps) = true := by simp [Region.wanted, hg, hy, hbb]
        rw [if_pos this]
        exact go he1 h5.symm
      · rename_i hbb
        cases h
        have : ¬Region.wanted o (yielded ops a.tmps) = true := by simp [Region.wanted, hg, hy, hbb]
        rw [if_neg this]
        refine ⟨fun f _ => hF.fn f, hK _ _ ?_⟩
        rw [h1]
        have := step_put (z1 := z) (w := w) (w' := w) (m := s.mem) he (R_skip) hG (Tr.refl z) hh hm (WS.refl w) h2
        exact this
    · rename_i hb
      have hy := yields_none he ho' hd' hb
      cases h
      have : ¬Region.wanted o (yielded ops a.tmps) = true := by simp [Region.wanted, hg, hy]
      rw [if_neg this]
      refine ⟨fun f _ => hF.fn f, hK _ _ ?_⟩
      rw [h1]
      have := step_put (z1 := z) (w := w) (w' := w) (m := s.mem) he (R_skip) hG (Tr.refl z) hh hm (WS.refl w) h2
      exact this
    · cases h

theorem region_list (hC : C.OK) {R' : Run} (hR : RunF C R') (hY : RunY C R') {ow : Ow} {ops : Array Oper} {Q : Exit → Act → World → Prop} {F : Fence} {k : Nat} (hF : WideF F) :
    ∀ (l : List Oper) (as : List AI) (z : Z) (w : World) (s s' : St) (a : Act), l.mapM (trOper C.P C.G ow a.tmps.size ops) = some as → execOps C.ft R' as s = some s' → Good C N z → z.h = w.heap → z.m = s.mem → EnvOK C N z s.env a →
      (∀ a' w', Step C N z a w s' a' w' → Q .normal a' w') → wpListIn F k C.P ops Q l a w
  | [], as, z, w, s, s', a, htr, h, hG, hh, hm, he, hK => by
    simp at htr
    subst htr
    cases h
    exact hK _ _ ⟨z, hG, Tr.refl z, hh, hm, he, rfl, rfl, WS.refl w⟩
  | o :: l, as, z, w, s, s', a, htr, h, hG, hh, hm, he, hK => by
    simp only [List.mapM_cons, bind, Option.bind_eq_some_iff, pure, Option.some.injEq] at htr
    obtain ⟨ai, h1, as', h2, rfl⟩ := htr
    simp only [execOps, Option.bind_eq_some_iff] at h
    obtain ⟨s1, h3, h4⟩ := h
    show if Region.wanted o (yielded ops a.tmps) then o.wpIn F k C.P a w (wpListIn F k C.P ops Q l) Q else (∀ f, o.about C.P w a.eval = some f → F.fn f) ∧ wpListIn F k C.P ops Q l (a.put o.dst undef) w
    refine operI_sound hC hR hY hG hh hm he h1 h3 (fun a' w' hst => ?_) hF
    obtain ⟨z1, g1, g2, g3, g4, g5, g6, g7, g8⟩ := hst
    exact region_list hC hR hY hF l as' z1 w' s1 s' a' (by rw [g6]; exact h2) h4 g1 g3 g4 g5 fun a2 w2 h5 => hK _ _ (h5.trans g2 g6 g7 g8)

theorem countP_one {p q : Nat → Bool} {i : Nat} (hp : p i = true) (hq : q i = false) (h : ∀ j, j ≠ i → q j = p j) : ∀ l : List Nat, l.Nodup → i ∈ l → l.countP q + 1 = l.countP p
  | [], _, hi => by cases hi
  | x :: l, hn, hi => by
    have hnd := List.nodup_cons.1 hn
    by_cases hx : x = i
    · subst hx
      rw [List.countP_cons_of_pos hp, List.countP_cons_of_neg (by simp [hq])]
      congr 1
      refine List.countP_congr fun y hy => ?_
      rw [h y (fun e => hnd.1 (e ▸ hy))]
    · have ih := countP_one hp hq h l hnd.2 ((List.mem_cons.1 hi).resolve_left fun e => hx e.symm)
      by_cases hpx : p x = true
      · rw [List.countP_cons_of_pos hpx, List.countP_cons_of_pos (by rw [h x hx]; exact hpx)]; omega
      · rw [List.countP_cons_of_neg hpx, List.countP_cons_of_neg (by rw [h x hx]; exact hpx)]; omega

theorem region_any (hC : C.OK) {R' : Run} (hR : RunF C R') (hY : RunY C R') {ow : Ow} {ops : Array Oper} {Q : Exit → Act → World → Prop} {F : Fence} {k : Nat} (hF : WideF F) {nt : Nat} {as : List AI} (htr : ops.toList.mapM (trOper C.P C.G ow nt ops) = some as)
    {chks : List (Nat × Nat)} (hok : OkD C.md chks (ops.toList.map preds) as) {p : Nat → St} (ht : Trace C.ft R' as p) (hchk : chkAll chks (p as.length).env = true) :
    ∀ (fuel : Nat) (listed : Array Bool) (z : Z) (w : World) (s : St) (a : Act), (List.range ops.size).countP (fun i => !listed.getD i true) = fuel → listed.size = ops.size → (∀ (i : Nat) l, (ops.toList.map preds)[i]? = some l → listed.getD i false = true → ∀ q ∈ l, listed.getD q false = true) →
      InvD C.md as p (fun i => listed.getD i false = true) s → a.tmps.size = nt → Good C N z → z.h = w.heap → z.m = s.mem → EnvOK C N z s.env a →
      (∀ a' w', Step C N z a w (p as.length) a' w' → Q .normal a' w') → wpAnyIn F k C.P .any ops Q fuel listed a w := by
  have hlen : as.length = ops.size := by rw [hok.len]; simp
  have hget : ∀ {listed : Array Bool} {i : Nat}, listed.size = ops.size → i < ops.size → listed.getD i true = listed.getD i false := fun hs hi => by
    rw [Array.getD_eq_getD_getElem?, Array.getD_eq_getD_getElem?, Array.getElem?_eq_getElem (by omega)]; rfl
  have hpr : ∀ {i : Nat} {l : List Nat} {o : Oper}, ops[i]? = some o → (ops.toList.map preds)[i]? = some l → l = preds o := fun ho hl => by
    rw [List.getElem?_map, Array.getElem?_toList, ho] at hl; cases hl; rfl
  have hready : ∀ {listed : Array Bool} {i : Nat}, i ∈ Region.ready .any ops listed ↔ i < ops.size ∧ listed.getD i true = false ∧ ∃ o, ops[i]? = some o ∧ ∀ q ∈ preds o, listed.getD q false = true := by
    intro listed i
    simp only [Region.ready, List.mem_filter, List.mem_range, Bool.and_eq_true, Bool.not_eq_true']
    refine and_congr_right fun hi => and_congr_right fun _ => ?_
    rw [Array.getElem?_eq_getElem hi]
    simp only [Option.map_some, Option.getD_some, Array.all_eq_true', Bool.or_eq_true, Bool.not_eq_true']
    constructor
    · intro h
      refine ⟨_, rfl, fun q hq => ?_⟩
      simp only [preds, List.mem_filterMap] at hq
      obtain ⟨e, he, h1⟩ := hq
      split at h1
      · rename_i hb
        cases h1
        exact (h e (by simpa using he)).resolve_left (by simp [hb])
      · cases h1
    · rintro ⟨o, ho, h⟩ e he
      cases ho
      by_cases hb : Region.binds .any e = true
      · exact .inr (h e.on (by simp only [preds, List.mem_filterMap]; exact ⟨e, by simpa using he, by simp [hb]⟩))
      · exact .inl (by simpa using hb)
  have hall : ∀ {listed : Array Bool}, listed.size = ops.size → Region.ready .any ops listed = [] → ∀ i, i < as.length → listed.getD i false = true := by
    intro listed hs hnil i
    induction i using Nat.strongRecOn with
    | _ i ih =>
      intro hi
      refine Classical.byContradiction fun hn => ?_
      have : i ∈ Region.ready .any ops listed := by
        refine hready.2 ⟨by omega, by rw [hget hs (by omega)]; simpa using hn, _, Array.getElem?_eq_getElem (by omega), fun q hq => ?_⟩
        have hlt := hok.lt i (preds ops[i]) (by rw [List.getElem?_map, Array.getElem?_toList, Array.getElem?_eq_getElem (by omega)]; rfl) q hq
        exact ih q hlt (by omega)
      rw [hnil] at this
      cases this
  have fin : ∀ {listed : Array Bool} {s : St} {z : Z} {w : World} {a : Act}, listed.size = ops.size → Region.ready .any ops listed = [] → InvD C.md as p (fun i => listed.getD i false = true) s → Good C N z → z.h = w.heap → z.m = s.mem → EnvOK C N z s.env a →
      (∀ a' w', Step C N z a w (p as.length) a' w' → Q .normal a' w') → Q .normal a w := by
    intro listed s z w a hs hnil hI hG hh hm he hK
    have := hI.all hC.md hok ht (hall hs hnil)
    subst this
    exact hK _ _ ⟨z, hG, Tr.refl z, hh, hm, he, rfl, rfl, WS.refl w⟩
  intro fuel
  induction fuel with
  | zero =>
    intro listed z w s a hcnt hs hcl hI hnt hG hh hm he hK
    have hnil : Region.ready .any ops listed = [] := by
      refine List.eq_nil_iff_forall_not_mem.2 fun i hi => ?_
      obtain ⟨h1, h2, _⟩ := hready.1 hi
      have := List.countP_eq_zero.1 hcnt i (List.mem_range.2 h1)
      simp [h2] at this
    exact ⟨hnil, fin hs hnil hI hG hh hm he hK⟩
  | succ fuel ih =>
    intro listed z w s a hcnt hs hcl hI hnt hG hh hm he hK
    refine ⟨fun hnil => fin hs hnil hI hG hh hm he hK, fun i hi => ?_⟩
    obtain ⟨h1, h2, o, h3, h4⟩ := hready.1 hi
    obtain ⟨g1, g2⟩ := mapM_RL' (S := fun ai o => trOper C.P C.G ow nt ops o = some ai) (fun _ _ h => h) htr
    obtain ⟨ai, hai⟩ : ∃ ai, as[i]? = some ai := ⟨_, List.getElem?_eq_getElem (by omega)⟩
    have h5 := g2 i ai o hai (by rw [Array.getElem?_toList]; exact h3)
    have hDi : ¬listed.getD i false = true := by rw [← hget hs h1, h2]; simp
    obtain ⟨s1, h6, h7⟩ := hI.step hC.md hok ht hchk hcl hai hDi (fun l hl q hq => h4 q (by rw [hpr h3 hl] at hq; exact hq))
    have hset : ∀ j, (listed.setIfInBounds i true).getD j false = true ↔ (listed.getD j false = true ∨ j = i) := by
      intro j
      by_cases hj : j = i
      · subst hj
        simp [Array.getD_eq_getD_getElem?, Array.getElem?_setIfInBounds_self_of_lt (show j < listed.size by omega)]
      · simp [Array.getD_eq_getD_getElem?, Array.getElem?_setIfInBounds_ne (Ne.symm hj), hj]
    unfold wpOpIn
    rw [h3]
    refine operI_sound hC hR hY hG hh hm he (by rw [hnt]; exact h5) h6 (fun a' w' hst => ?_) hF
    obtain ⟨z1, q1, q2, q3, q4, q5, q6, q7, q8⟩ := hst
    refine ih _ z1 w' s1 a' ?_ (by simpa using hs) (fun j l hl hj q hq => ?_) ?_ (q6.trans hnt) q1 q3 q4 q5 fun a2 w2 h8 => hK _ _ (h8.trans q2 q6 q7 q8)
    · have := countP_one (p := fun j => !listed.getD j true) (q := fun j => !(listed.setIfInBounds i true).getD j true) (i := i) (by rw [h2]; rfl) (by
        simp [Array.getD_eq_getD_getElem?, Array.getElem?_setIfInBounds_self_of_lt (show i < listed.size by omega)]) (fun j hj => by
        simp [Array.getD_eq_getD_getElem?, Array.getElem?_setIfInBounds_ne (Ne.symm hj)]) (List.range ops.size) List.nodup_range (List.mem_range.2 h1)
      omega
    · rw [hset] at hj ⊢
      rcases hj with hj | rfl
      · exact .inl (hcl j l hl hj q hq)
      · exact .inl (h4 q (by rw [hpr h3 hl] at hq; exact hq))
    · have : (fun j => (listed.setIfInBounds i true).getD j false = true) = fun j => listed.getD j false = true ∨ j = i := funext fun j => propext (hset j)
      rw [this]; exact h7

end
end Go.Ab
end

section
/-
  Other cells that do not count; a block of the heap that is taken over.
-/
namespace Go.Ab
section
variable {C : Cx} {N N' : Nat → Nat → Prop} {z z' z0 z1 z2 : Z} {w : World}

/-- From one state to another one, with other cells that do not count. -/
structure Tr2 (P : Program) (N N' : Nat → Nat → Prop) (z z' : Z) : Prop where
  cell : ∀ b o u, cellAt z.h b o = some u → ¬X P N z b o → cellAt z'.h b o = some u
  forb : ∀ b o, b < z.h.size → X P N' z' b o → X P N z b o
  blks : z.m.blks.length ≤ z'.m.blks.length
  rho : ∀ id, id < z.m.blks.length → z'.ρ id = z.ρ id
  live : ∀ id, id < z.m.blks.length → ∀ es sz, z'.m.blks[id]? = some (.live es sz) → (∃ es0, z.m.blks[id]? = some (.live es0 sz)) ∧ csize z'.h (z.ρ id) = csize z.h (z.ρ id)
  toks : z.m.toks.length ≤ z'.m.toks.length
  tok : ∀ t, t < z.m.toks.length → ∀ n T, z'.m.toks[t]? = some (n, T) → ∃ n0, z.m.toks[t]? = some (n0, T) ∧ n0 ≤ n ∧ (n0 = n → z'.τ t = z.τ t ∧ csize z'.h (z.τ t) = csize z.h (z.τ t))
theorem TkRep.step2 {P : Program} (h : Tr2 P N N' z z') {n st cap : Nat} {a : Option Addr} {tk : Tk} (e : TkRep z n st a cap tk) : TkRep z' n st a cap tk := by
  cases tk with
  | unk => trivial
  | tight => exact e
  | _ =>
    rename_i t
    obtain ⟨ht, e⟩ := e
    refine ⟨Nat.lt_of_lt_of_le ht h.toks, fun k T hk => ?_⟩
    obtain ⟨k0, hk0, hle, hc⟩ := h.tok t ht k T hk
    obtain ⟨h1, h2⟩ := e k0 T hk0
    refine ⟨Nat.le_trans h1 hle, fun hn => ?_⟩
    obtain ⟨h3, h4⟩ := hc (by omega)
    obtain ⟨h5, h6⟩ := h2 (by omega)
    rw [h3, h4]
    exact ⟨h5, h6⟩
theorem AtI.step2 {P : Program} (h : Tr2 P N N' z z') {R R' : AV → Value → Prop} (hr : ∀ a u, R a u → R' a u) {e : AV} {b o : Nat} (k : AtI P N z R e b o) : AtI P N' z' R' e b o :=
  fun j a hj => let ⟨u, h1, h2, h2', h3⟩ := k j a hj; ⟨u, h.cell _ _ _ h1 h2, fun hx => h2 (h.forb _ _ (cellAt_lt h1) hx), h2', hr _ _ h3⟩
theorem Rep_step2 {P : Program} (h : Tr2 P N N' z z') : ∀ {n : Nat} {a : AV} {v : Value}, Rep P N z n a v → Rep P N' z' n a v
  | 0, _, _, e => e.elim
  | n + 1, a, v, e => by
    have ih : ∀ a u, Rep P N z n a u → Rep P N' z' n a u := fun _ _ e => Rep_step2 h e
    cases a with
    | undef => trivial
    | bool b => exact e
    | int k i => exact e
    | str s => exact e
    | nilf => exact e
    | nilp => exact e
    | nilm => exact e
    | agg cs => obtain ⟨us, hv, hr⟩ := e; exact ⟨us, hv, hr.mono ih⟩
    | tup cs => obtain ⟨us, hv, hr⟩ := e; exact ⟨us, hv, hr.mono ih⟩
    | sl es tk =>
      obtain ⟨a, cap, st, hv, h1, h1', h2, h3, h4, h5⟩ := e
      exact ⟨a, cap, st, hv, h1, h1', h2, h3, fun i e he => let ⟨b, o, h6, h7⟩ := h4 i e he; ⟨b, o, h6, h7.step2 h ih⟩, h5.step2 h⟩
    | ref id off len =>
      obtain ⟨hid, hs, e⟩ := e
      refine ⟨Nat.lt_of_lt_of_le hid h.blks, hs, fun es sz hb => ?_⟩
      obtain ⟨⟨es0, h0⟩, hc⟩ := h.live id hid es sz hb
      obtain ⟨cap, h1, h2, h3, h4⟩ := e es0 sz h0
      rw [h.rho id hid]
      exact ⟨cap, h1, h2, h3, h4.trans hc.symm⟩
    | ptr id ix off | aps id ix off q =>
      obtain ⟨hid, hs, e⟩ := e
      refine ⟨Nat.lt_of_lt_of_le hid h.blks, hs, fun es sz hb => ?_⟩
      obtain ⟨⟨es0, h0⟩, hc⟩ := h.live id hid es sz hb
      rw [h.rho id hid]
      exact e es0 sz h0
    | pv x off => obtain ⟨b, o, hv, h1⟩ := e; exact ⟨b, o, hv, h1.step2 h ih⟩
    | fn f first cap => obtain ⟨fs, cs, hv, h1, h2⟩ := e; exact ⟨fs, cs, hv, h1.mono ih, h2.mono ih⟩
    | yld id => obtain ⟨hid, e⟩ := e; exact ⟨Nat.lt_of_lt_of_le hid h.blks, by rw [h.rho id hid]; exact e⟩
    | mp id => obtain ⟨hid, e⟩ := e; exact ⟨Nat.lt_of_lt_of_le hid h.blks, by rw [h.rho id hid]; exact e⟩
    | itr id => obtain ⟨hid, e⟩ := e; exact ⟨Nat.lt_of_lt_of_le hid h.blks, by rw [h.rho id hid]; exact e⟩
theorem R_step2 {P : Program} (h : Tr2 P N N' z z') {a : AV} {v : Value} (e : R P N z a v) : R P N' z' a v := let ⟨n, e⟩ := e; ⟨n, Rep_step2 h e⟩
theorem MpOK.step2 {P : Program} (h : Tr2 P N N' z z') {ek : EK} {kvs : List (AV × AV)} {es : List MapEntry} {c : Nat} (k : MpOK P N z ek kvs es c) : MpOK P N' z' ek kvs es c :=
  ⟨k.1, fun i p e h1 h2 => let ⟨a, b, c⟩ := k.2 i p e h1 h2; ⟨a, R_step2 h b, R_step2 h c⟩⟩
theorem MpP.step2 {P : Program} (h : Tr2 P N N' z z') {ek : EK} {kvs : List (AV × AV)} {es : List MapEntry} {c : Nat} (k : MpP P N z ek kvs es c) : MpP P N' z' ek kvs es c :=
  let ⟨es', a, b, d⟩ := k; ⟨es', a, b, d.step2 h⟩

/-- New objects of the heap that nobody owns, and that do not count. -/
theorem tr2_ext (hG : Good C N z) {h' : Array Obj} (hs : z.h.size ≤ h'.size) (he : ∀ b, b < z.h.size → h'[b]? = z.h[b]?) (hn : ∀ b o, N' b o → N b o ∨ z.h.size ≤ b) : Tr2 C.P N N' z { z with h := h' } where
  cell := fun b j u h _ => by show cellAt h' b j = _; unfold cellAt at *; rw [he b (cellAt_lt h)]; exact h
  forb := fun b o hb hx => by
    rcases hx with hx | hx | hx
    · exact (hn b o hx).elim .inl fun h => by omega
    · exact .inr (.inl hx)
    · exact .inr (.inr hx)
  blks := Nat.le_refl _
  rho := fun _ _ => rfl
  live := fun id _ es sz h => ⟨⟨es, h⟩, by show csize h' _ = _; unfold csize; rw [he _ (hG.rho_lt h (by simp))]⟩
  toks := Nat.le_refl _
  tok := fun t _ n T h => ⟨n, h, Nat.le_refl _, fun _ => ⟨rfl, by show csize h' _ = _; unfold csize; rw [he _ (hG.tau_lt h)]⟩⟩
theorem good2_ext (hG : Good C N z) {h' : Array Obj} (hs : z.h.size ≤ h'.size) (he : ∀ b, b < z.h.size → h'[b]? = z.h[b]?) (hn : ∀ b o, N' b o → N b o ∨ (z.h.size ≤ b ∧ b < h'.size)) : Good C N' { z with h := h' } := by
  have hT := tr2_ext (N' := N') hG hs he fun b o h => (hn b o h).imp id And.left
  constructor
  · intro id es sz h
    obtain ⟨cs, T, h2, h3, h4⟩ := hG.live id es sz h
    exact ⟨cs, T, (he _ (hG.rho_lt h (by simp))).trans h2, h3, fun i e he => ⟨(h4 i e he).1, fun j a ha => let ⟨u, h5, h6, h7⟩ := (h4 i e he).2 j a ha; ⟨u, h5, h6, R_step2 hT h7⟩⟩⟩
  · intro t n T h
    obtain ⟨cs, cap, h1, h2⟩ := hG.tok t n T h
    exact ⟨cs, cap, (he _ (hG.tau_lt h)).trans h1, h2⟩
  · exact hG.rr
  · exact hG.rt
  · exact hG.tt
  · intro id es sz h o hx
    rcases hn _ _ hx with h1 | h1
    · exact hG.nl id es sz h o h1
    · exact absurd (hG.rho_lt h (by simp)) (Nat.not_lt.2 h1.1)
  · intro t n T h o ho hx
    rcases hn _ _ hx with h1 | h1
    · exact hG.nt t n T h o ho h1
    · exact absurd (hG.tau_lt h) (Nat.not_lt.2 h1.1)
  · intro b o' hx
    rcases hn _ _ hx with h1 | h1
    · exact Nat.lt_of_lt_of_le (hG.no b o' h1) hs
    · exact h1.2
  · intro id env ps asg body rdy pend h
    obtain ⟨L, h2, h3, h4, h5, h6, h6', h7, h8, h9⟩ := hG.lp id env ps asg body rdy pend h
    exact ⟨L, (he _ (hG.rho_lt h (by simp))).trans h2, h3, h4, h5, h6, h6', fun t => R_step2 hT (h7 t), h8, h9⟩
  · intro g e h; exact R_step2 hT (hG.glob g e h)
  · intro id kvs ek h
    obtain ⟨es, clock, h2, h3⟩ := hG.mp id kvs ek h
    exact ⟨es, clock, (he _ (hG.rho_lt h (by simp))).trans h2, h3.step2 hT⟩

/-- A block of the heap becomes one's own. -/
def Z.adopt (z : Z) (b : Nat) (k : Blk) : Z := ⟨z.h, fun i => if i = z.m.blks.length then b else z.ρ i, z.τ, { z.m with blks := z.m.blks ++ [k] }⟩
theorem tr2_adopt {b : Nat} {k : Blk} (hsub : ∀ b' o, N' b' o → N b' o) (hb : ∀ o, N b o) : Tr2 C.P N N' z (z.adopt b k) where
  cell := fun _ _ _ h _ => h
  forb := fun b' o _ hx => by
    rcases hx with hx | ⟨id, es, sz, h1, h2⟩ | hx
    · exact .inl (hsub _ _ hx)
    · rcases get_snoc h1 with ⟨h1, hi⟩ | ⟨rfl, _⟩
      · refine .inr (.inl ⟨id, es, sz, h1, ?_⟩)
        simp only [Z.adopt] at h2; rw [if_neg (by omega)] at h2; exact h2
      · simp only [Z.adopt, if_true] at h2; subst h2; exact .inl (hb o)
    · exact .inr (.inr hx)
  blks := by simp [Z.adopt]
  rho := fun id hid => by simp only [Z.adopt]; rw [if_neg (by omega)]
  live := fun id hid es sz h => by
    rcases get_snoc h with ⟨h1, _⟩ | ⟨rfl, _⟩
    · exact ⟨⟨es, h1⟩, rfl⟩
    · omega
  toks := Nat.le_refl _
  tok := fun _ _ n _ h => ⟨n, h, Nat.le_refl _, fun _ => ⟨rfl, rfl⟩⟩
theorem good_adopt (hG : Good C N z) {b : Nat} {v : AV} {x : Value} {T : TypeId} {n : Nat} (hsub : ∀ b' o, N' b' o → N b' o) (hb : ∀ o, N b o) (hnb : ∀ o, ¬N' b o) (hown : ¬Own z b) (hx : z.h[b]? = some (.cells x.cells T (0, 0)))
    (hv : ∀ (N : Nat → Nat → Prop) z, R C.P N z v x) (hs : v.solids = true) (hn : v.cells.length = n) : Good C N' (z.adopt b (.live [v] n)) := by
  have hT := tr2_adopt (C := C) (z := z) (k := .live [v] n) hsub hb
  have hrn : (z.adopt b (.live [v] n)).ρ z.m.blks.length = b := by simp [Z.adopt]
  constructor
  · intro id es sz h
    rcases get_snoc h with ⟨h1, hi⟩ | ⟨rfl, hk⟩
    · obtain ⟨cs, T', h2, h3, h4⟩ := hG.live id es sz h1
      exact ⟨cs, T', by rw [hT.rho id hi]; exact h2, h3, fun i e he => ⟨(h4 i e he).1, fun j a ha => let ⟨u, h5, h6, h7⟩ := (h4 i e he).2 j a ha; ⟨u, h5, h6, R_step2 hT h7⟩⟩⟩
    · cases hk
      have hc := cells_sound (hv N' (z.adopt b (.live [v] n))) hs
      refine ⟨x.cells, T, by rw [hrn]; exact hx, ?_, fun i e' he => ?_⟩
      · have := hc.1; simp at this ⊢; omega
      · cases i with
        | succ i => simp at he
        | zero =>
          simp at he; subst he
          refine ⟨hn, fun j a ha => ?_⟩
          obtain ⟨u, h1, h2, h3⟩ := RL_get hc ha
          rw [Array.getElem?_toList] at h1
          exact ⟨u, by simpa using h1, h3, h2⟩
  · exact hG.tok
  · intro id id' k1 k2 h1 h2 d1 d2 he
    rcases get_snoc h1 with ⟨g1, hi⟩ | ⟨hi, e1⟩ <;> rcases get_snoc h2 with ⟨g2, hi'⟩ | ⟨hi', e2⟩
    · rw [hT.rho id hi, hT.rho id' hi'] at he; exact hG.rr id id' k1 k2 g1 g2 d1 d2 he
    · subst hi'; rw [hT.rho id hi, hrn] at he; exact absurd (Or.inl ⟨id, k1, g1, d1, he⟩) hown
    · subst hi; rw [hT.rho id' hi', hrn] at he; exact absurd (Or.inl ⟨id', k2, g2, d2, he.symm⟩) hown
    · omega
  · intro id k1 t y h1 d1 h2 he
    rcases get_snoc h1 with ⟨g1, hi⟩ | ⟨hi, e1⟩
    · rw [hT.rho id hi] at he; exact hG.rt id k1 t y g1 d1 h2 he
    · subst hi; rw [hrn] at he; exact hown (Or.inr ⟨t, y, h2, he.symm⟩)
  · exact hG.tt
  · intro id es sz h o' hx'
    rcases get_snoc h with ⟨h1, hi⟩ | ⟨rfl, _⟩
    · rw [hT.rho id hi] at hx'; exact hG.nl id es sz h1 o' (hsub _ _ hx')
    · rw [hrn] at hx'; exact hnb _ hx'
  · intro t n' T' h o ho hx'; exact hG.nt t n' T' h o ho (hsub _ _ hx')
  · intro b' o hx'; exact hG.no b' o (hsub _ _ hx')
  · intro id env ps asg body rdy pend h
    rcases get_snoc h with ⟨h1, hi⟩ | ⟨_, hk⟩
    · obtain ⟨L, h2, h3, h4, h5, h6, h6', h7, h8, h9⟩ := hG.lp id env ps asg body rdy pend h1
      exact ⟨L, by rw [hT.rho id hi]; exact h2, h3, h4, h5, h6, h6', fun t => R_step2 hT (h7 t), h8, h9⟩
    · cases hk
  · intro g e h; exact R_step2 hT (hG.glob g e h)
  · intro id kvs ek h
    rcases get_snoc h with ⟨h1, hi⟩ | ⟨_, hk⟩
    · obtain ⟨es, clock, h2, h3⟩ := hG.mp id kvs ek h1
      exact ⟨es, clock, by rw [hT.rho id hi]; exact h2, h3.step2 hT⟩
    · cases hk
theorem tr_adopt {b : Nat} {k : Blk} (h : Tr C.P N z0 z) (hb : z0.h.size ≤ b) : Tr C.P N z0 (z.adopt b k) where
  size := h.size
  cell := h.cell
  forb := fun b' o hb' hx => by
    rcases hx with hx | ⟨id, es, sz, h1, h2⟩ | hx
    · exact h.forb b' o hb' (.inl hx)
    · rcases get_snoc h1 with ⟨h1, hi⟩ | ⟨rfl, _⟩
      · refine h.forb b' o hb' (.inr (.inl ⟨id, es, sz, h1, ?_⟩))
        simp only [Z.adopt] at h2; rw [if_neg (by omega)] at h2; exact h2
      · simp only [Z.adopt, if_true] at h2; omega
    · exact h.forb b' o hb' (.inr (.inr hx))
  other := h.other
  own := fun b' hb' ho => by
    rcases ho with ⟨id, k', h1, h2, h3⟩ | ⟨t, y, h1, h2⟩
    · rcases get_snoc h1 with ⟨h1, hi⟩ | ⟨rfl, _⟩
      · refine h.own b' hb' (.inl ⟨id, k', h1, h2, ?_⟩)
        simp only [Z.adopt] at h3; rw [if_neg (by omega)] at h3; exact h3
      · simp only [Z.adopt, if_true] at h3; omega
    · exact h.own b' hb' (.inr ⟨t, y, h1, h2⟩)
  blks := by have := h.blks; simp [Z.adopt]; omega
  rho := fun id hid => by have := h.blks; simp only [Z.adopt]; rw [if_neg (by omega)]; exact h.rho id hid
  live := fun id hid es sz e => by
    have := h.blks
    rcases get_snoc e with ⟨h1, _⟩ | ⟨rfl, _⟩
    · exact h.live id hid es sz h1
    · omega
  toks := h.toks
  tok := h.tok
  loops := h.loops
theorem tr_more (h : Tr C.P N z0 z) (k : Tr C.P N' z z1) (hn : ∀ b o, N' b o → N b o ∨ z0.h.size ≤ b) (hs : ∀ b o, N b o → N' b o) : Tr C.P N z0 z1 where
  size := Nat.le_trans h.size k.size
  cell := fun b o u e hx => k.cell b o u (h.cell b o u e hx) fun hx' => by
    have hb := cellAt_lt e
    rcases hx' with hx' | hx'
    · rcases hn _ _ hx' with h1 | h1
      · exact hx (h.forb b o hb (.inl h1))
      · omega
    · exact hx (h.forb b o hb (.inr hx'))
  forb := fun b o hb hx => by
    have : X C.P N' z b o := k.forb b o (Nat.lt_of_lt_of_le hb h.size) (hx.imp (hs _ _) id)
    rcases this with h1 | h1
    · rcases hn _ _ h1 with h2 | h2
      · exact h.forb b o hb (.inl h2)
      · omega
    · exact h.forb b o hb (.inr h1)
  other := fun b hb ho => (k.other b (Nat.lt_of_lt_of_le hb h.size) fun h' => ho (h.own b hb h')).trans (h.other b hb ho)
  own := fun b hb ho => h.own b hb (k.own b (Nat.lt_of_lt_of_le hb h.size) ho)
  blks := Nat.le_trans h.blks k.blks
  rho := fun id hid => (k.rho id (Nat.lt_of_lt_of_le hid h.blks)).trans (h.rho id hid)
  live := fun id hid es sz e => by
    obtain ⟨⟨es2, e2⟩, hc⟩ := k.live id (Nat.lt_of_lt_of_le hid h.blks) es sz e
    obtain ⟨⟨es1, e1⟩, hc'⟩ := h.live id hid es2 sz e2
    rw [h.rho id hid] at hc
    exact ⟨⟨es1, e1⟩, hc.trans hc'⟩
  toks := Nat.le_trans h.toks k.toks
  tok := fun t ht n T e => by
    obtain ⟨n2, e2, hn2, hc2⟩ := k.tok t (Nat.lt_of_lt_of_le ht h.toks) n T e
    obtain ⟨n1, e1, hn1, hc1⟩ := h.tok t ht n2 T e2
    refine ⟨n1, e1, Nat.le_trans hn1 hn2, fun hn => ?_⟩
    obtain ⟨a, b⟩ := hc1 (by omega)
    obtain ⟨c, d⟩ := hc2 (by omega)
    rw [a] at c d
    exact ⟨c, d.trans b⟩
  loops := fun b l e => let ⟨l', e'⟩ := h.loops b l e; k.loops b l' e'

/-- What an operation's end is: its slot is written, nothing else. -/
theorem wpIn_put {F : Fence} {n : Nat} {P : Program} {o : Oper} {a : Act} {K : Act → World → Prop} {Q : Exit → Act → World → Prop}
    (hh : o.wpIn F n P a w K Q) : o.wpIn F n P a w (fun a' w' => K a' w' ∧ ∃ v, a'.tmps = (a.put o.dst v).tmps) Q := by
  have ep : ∀ (ds : List Deferred) (v : Value), (({ a with defers := ds } : Act).put o.dst v).tmps = (a.put o.dst v).tmps := fun ds v => by cases o.dst <;> rfl
  unfold Oper.wpIn at *
  refine ⟨hh.1, ?_⟩
  have hh := hh.2
  generalize (o.semAt F.round a.eval).run P w = r at *
  cases r with
  | ok x w' =>
    cases x <;> simp only [Oper.uponIn] at hh ⊢ <;>
      first
        | exact ⟨hh, _, rfl⟩
        | exact ⟨hh, _, ep _ _⟩
        | exact ⟨hh.1, CallsIn.mono hh.2 (fun e w'' he => by cases e <;> first | exact ⟨he, _, rfl⟩ | exact he)⟩
        | exact ⟨hh.1, RowsIn.mono hh.2 (fun _ _ he => ⟨he, _, rfl⟩)⟩
        | exact ⟨hh.1, RoundIn.mono hh.2 (fun e w'' he => by cases e <;> first | exact ⟨he, _, rfl⟩ | exact he)⟩
  | halt x w' => cases x <;> simp only [Oper.uponIn] at hh ⊢ <;> exact hh
theorem wpOpIn_put {F : Fence} {n : Nat} {P : Program} {ops : Array Oper} {i : Nat} {o : Oper} (ho : ops[i]? = some o) {a : Act} {K : Act → World → Prop} {Q : Exit → Act → World → Prop}
    (hh : wpOpIn F n P ops Q i K a w) : wpOpIn F n P ops Q i (fun a' w' => K a' w' ∧ ∃ v, a'.tmps = (a.put o.dst v).tmps) a w := by
  unfold wpOpIn at *
  rw [ho] at hh ⊢
  simp only at hh ⊢
  split
  · rename_i hw; simp only [hw, if_true] at hh; exact wpIn_put hh
  · rename_i hw; simp only [hw] at hh; exact ⟨hh.1, hh.2, _, rfl⟩
theorem alloc_run {T : TypeId} {v0 : AV} (hz : zeroT C.P T = some v0) {o : Oper} (hop : o.op = .alloc T) (hd : ∀ c, o.op ≠ .defer c) : ∃ x : Value, (∀ (N : Nat → Nat → Prop) z, R C.P N z v0 x) ∧
    ∀ {a : Act} {K : Act → World → Prop} {Q : Exit → Act → World → Prop} {F : Fence} {k : Nat} (w : World), WideF F → K (a.put o.dst (.pointer (some ⟨w.heap.size, 0, none⟩))) (w.alloc (.cells x.cells T)) → o.wpIn F k C.P a w K Q := by
  simp only [zeroT, Option.bind_eq_some_iff] at hz
  obtain ⟨i, hi, x, hx, h⟩ := hz
  refine ⟨x, fun N z => trVal_sound h, fun {a K Q F k} w hF hK => ⟨fun f _ => hF.fn f, ?_⟩⟩
  rw [Oper.semAt_plain F _ _ hd]
  have hrun : (execOp a.eval o).run C.P w = .ok (.value (.pointer (some ⟨w.heap.size, 0, none⟩))) (w.alloc (.cells x.cells T)) := by
    unfold execOp
    rw [hop]
    simp [Instr.alloc, zeroValue, typeInfo, hi, hx, newVar, newRow]
  rw [hrun, Oper.uponIn_value]
  exact hK
end
end Go.Ab
end

section
/-
  Regions in an order of their own, with memory that is made late.
-/
namespace Go.Ab
section
variable {C : Cx} {N N' : Nat → Nat → Prop} {z z1 z2 : Z} {w : World}

/-- The cells of the blocks that wait for their store, and those of the callers. -/
def Np (N : Nat → Nat → Prop) (pd : Nat → Option Nat) (b _o : Nat) : Prop := N b _o ∨ ∃ t, pd t = some b
def mask (pd : Nat → Option Nat) (env : Nat → AV) : Nat → AV := fun t => if (pd t).isSome = true then .undef else env t
theorem mask_none {pd : Nat → Option Nat} (h : ∀ t, pd t = none) (env : Nat → AV) : mask pd env = env := funext fun t => by simp [mask, h]
theorem Np_none {pd : Nat → Option Nat} (h : ∀ t, pd t = none) : Np N pd = N := funext fun b => funext fun o => propext ⟨fun hx => hx.elim id fun ⟨t, ht⟩ => (by rw [h] at ht; cases ht), .inl⟩

structure Late (C : Cx) (ow : Ow) (nt : Nat) (ops : Array Oper) (pm qm : Nat → Nat) (as : List AI) (lp : List Lp) : Prop where
  len : as.length = ops.size
  pmlt : ∀ k, k < ops.size → pm k < ops.size
  pmge : ∀ k, ops.size ≤ k → ops.size ≤ pm k
  qmlt : ∀ i, i < ops.size → qm i < ops.size
  pq : ∀ i, i < ops.size → pm (qm i) = i
  qp : ∀ k, k < ops.size → qm (pm k) = k
  alo : ∀ p ∈ lp, ∃ o, ops[p.i]? = some o ∧ o.op = .alloc p.T ∧ o.guard = none ∧ o.dst = some p.t ∧ p.t < nt ∧ as[qm p.i]? = some ⟨none, none, .mov (.c .undef)⟩
  sto : ∀ p ∈ lp, ∃ o x n v0, ops[p.j]? = some o ∧ p.i ∈ preds o ∧ o.dst = none ∧ trOper C.P C.G ow nt ops o = some ⟨none, none, .store (.t p.t) x n⟩ ∧ as[qm p.j]? = some ⟨some p.t, none, .box x n⟩ ∧
    zeroT C.P p.T = some v0 ∧ v0.isAgg' = true ∧ v0.solids = true ∧ v0.cells.length = n ∧ 2 ≤ n
  nam : ∀ p ∈ lp, ∀ k a, k ≤ qm p.j → as[k]? = some a → p.t ∉ a.names
  uni : ∀ p ∈ lp, ∀ q ∈ lp, p.t = q.t → p.i = q.i ∧ p.j = q.j
  oth : ∀ i o, ops[i]? = some o → (∀ p ∈ lp, i ≠ p.i ∧ i ≠ p.j) → ∃ a, as[qm i]? = some a ∧ trOper C.P C.G ow nt ops o = some a

structure InvL (C : Cx) (N : Nat → Nat → Prop) (z0 : Z) (lp : List Lp) (D : Nat → Prop) (s : St) (a : Act) (w : World) (z : Z) (pd : Nat → Option Nat) : Prop where
  good : Good C (Np N pd) z
  heap : z.h = w.heap
  mem : z.m = s.mem
  env : EnvOK C (Np N pd) z (mask pd s.env) a
  tr : Tr C.P N z0 z
  ofs : ∀ t b, pd t = some b → ∃ p ∈ lp, p.t = t ∧ D p.i ∧ ¬D p.j
  has : ∀ p ∈ lp, D p.i → ¬D p.j → ∃ b, pd p.t = some b
  blk : ∀ p ∈ lp, ∀ b, pd p.t = some b → a.tmps.getD p.t undef = .pointer (some ⟨b, 0, none⟩) ∧ (∃ x v0, zeroT C.P p.T = some v0 ∧ (∀ (N : Nat → Nat → Prop) z, R C.P N z v0 x) ∧ z.h[b]? = some (.cells x.cells p.T (0, 0))) ∧ z0.h.size ≤ b ∧ ¬Own z b
  inj : ∀ t t' b, pd t = some b → pd t' = some b → t = t'

theorem put_getD_ne {a : Act} {d : Option Nat} {v : Value} {t : Nat} (h : d ≠ some t) : (a.put d v).tmps.getD t undef = a.tmps.getD t undef := by
  cases d with
  | none => rfl
  | some d =>
    have hne : d ≠ t := fun e => h (by rw [e])
    simp [Act.put, Array.getD_eq_getD_getElem?, Array.getElem?_setIfInBounds_ne hne]
theorem put_getD_self {a : Act} {v : Value} {t : Nat} (h : t < a.tmps.size) : (a.put (some t) v).tmps.getD t undef = v := by
  simp [Act.put, Array.getD_eq_getD_getElem?, Array.getElem?_setIfInBounds_self_of_lt h]

theorem region_late (hC : C.OK) {R' : Run} (hR : RunF C R') (hY : RunY C R') {ow : Ow} {nt : Nat} {ops : Array Oper} {pm qm : Nat → Nat} {as : List AI} {lp : List Lp} (hL : Late C ow nt ops pm qm as lp)
    {ps : List (List Nat)} {chks : List (Nat × Nat)} (hok : OkD C.md chks ps as) (hps : ∀ (i : Nat) (o : Oper), ops[i]? = some o → ps[qm i]? = some ((preds o).map qm)) (hpr : ∀ (i : Nat) (o : Oper), ops[i]? = some o → ∀ q ∈ preds o, q < ops.size)
    {p : Nat → St} (ht : Trace C.ft R' as p) (hchk : chkAll chks (p as.length).env = true) {F : Fence} {kk : Nat} (hF : WideF F) {Q : Exit → Act → World → Prop} {z0 : Z} (hG0 : Good C N z0) {a0 : Act} {w0 : World} (hsz : a0.tmps.size = nt)
    (hK : ∀ a' w', Step C N z0 a0 w0 (p as.length) a' w' → Q .normal a' w') :
    ∀ (fuel : Nat) (listed : Array Bool) (z : Z) (pd : Nat → Option Nat) (w : World) (s : St) (a : Act), (List.range ops.size).countP (fun i => !listed.getD i true) = fuel → listed.size = ops.size →
      (∀ (i : Nat) (o : Oper), ops[i]? = some o → listed.getD i false = true → ∀ q ∈ preds o, listed.getD q false = true) →
      InvD C.md as p (fun k => listed.getD (pm k) false = true) s → InvL C N z0 lp (fun i => listed.getD i false = true) s a w z pd → a.tmps.size = nt → a.defers = a0.defers → WS w0 w →
      wpAnyIn F kk C.P .any ops Q fuel listed a w := by
  have hget : ∀ {listed : Array Bool} {i : Nat}, listed.size = ops.size → i < ops.size → listed.getD i true = listed.getD i false := fun hs hi => by
    rw [Array.getD_eq_getD_getElem?, Array.getD_eq_getD_getElem?, Array.getElem?_eq_getElem (by omega)]; rfl
  have hready : ∀ {listed : Array Bool} {i : Nat}, i ∈ Region.ready .any ops listed ↔ i < ops.size ∧ listed.getD i true = false ∧ ∃ o, ops[i]? = some o ∧ ∀ q ∈ preds o, listed.getD q false = true := by
    intro listed i
    simp only [Region.ready, List.mem_filter, List.mem_range, Bool.and_eq_true, Bool.not_eq_true']
    refine and_congr_right fun hi => and_congr_right fun _ => ?_
    rw [Array.getElem?_eq_getElem hi]
    simp only [Option.map_some, Option.getD_some, Array.all_eq_true', Bool.or_eq_true, Bool.not_eq_true']
    constructor
    · intro h
      refine ⟨_, rfl, fun q hq => ?_⟩
      simp only [preds, List.mem_filterMap] at hq
      obtain ⟨e, he, h1⟩ := hq
      split at h1
      · rename_i hb
        cases h1
        exact (h e (by simpa using he)).resolve_left (by simp [hb])
      · cases h1
    · rintro ⟨o, ho, h⟩ e he
      cases ho
      by_cases hb : Region.binds .any e = true
      · exact .inr (h e.on (by simp only [preds, List.mem_filterMap]; exact ⟨e, by simpa using he, by simp [hb]⟩))
      · exact .inl (by simpa using hb)
  have hall : ∀ {listed : Array Bool}, listed.size = ops.size → Region.ready .any ops listed = [] → ∀ k, k < ops.size → listed.getD (pm k) false = true := by
    intro listed hs hnil k
    induction k using Nat.strongRecOn with
    | _ k ih =>
      intro hk
      refine Classical.byContradiction fun hn => ?_
      have hpk := hL.pmlt k hk
      have : pm k ∈ Region.ready .any ops listed := by
        refine hready.2 ⟨hpk, by rw [hget hs hpk]; simpa using hn, _, Array.getElem?_eq_getElem hpk, fun q hq => ?_⟩
        have hq' := hpr _ _ (Array.getElem?_eq_getElem hpk) q hq
        have h1 := hps _ _ (Array.getElem?_eq_getElem hpk)
        rw [hL.qp k hk] at h1
        have hlt := hok.lt k _ h1 (qm q) (List.mem_map.2 ⟨q, hq, rfl⟩)
        have := ih (qm q) hlt (hL.qmlt q hq')
        rwa [hL.pq q hq'] at this
      rw [hnil] at this
      cases this
  have fin : ∀ {listed : Array Bool} {s : St} {z : Z} {pd : Nat → Option Nat} {w : World} {a : Act}, listed.size = ops.size → Region.ready .any ops listed = [] → InvD C.md as p (fun k => listed.getD (pm k) false = true) s →
      InvL C N z0 lp (fun i => listed.getD i false = true) s a w z pd → a.tmps.size = nt → a.defers = a0.defers → WS w0 w → Q .normal a w := by
    intro listed s z pd w a hs hnil hI hV h1 h2 h3
    have hd := hall hs hnil
    have := hI.all hC.md hok ht (fun k hk => hd k (by rw [← hL.len]; exact hk))
    subst this
    have hno : ∀ t, pd t = none := fun t => by
      cases hp : pd t with
      | none => rfl
      | some b =>
        obtain ⟨q, hq, _, _, h5⟩ := hV.ofs t b hp
        obtain ⟨o, _, _, _, g1, _⟩ := hL.sto q hq
        have hlt := (Array.getElem?_eq_some_iff.1 g1).1
        have := hd (qm q.j) (hL.qmlt _ hlt)
        rw [hL.pq _ hlt] at this
        exact absurd this h5
    have hg := hV.good
    have he := hV.env
    rw [Np_none hno] at hg he
    rw [mask_none hno] at he
    exact hK _ _ ⟨z, hg, hV.tr, hV.heap, hV.mem, he, by rw [h1, hsz], h2, h3⟩
  intro fuel
  induction fuel with
  | zero =>
    intro listed z pd w s a hcnt hs hcl hI hV h1 h2 h3
    have hnil : Region.ready .any ops listed = [] := by
      refine List.eq_nil_iff_forall_not_mem.2 fun i hi => ?_
      obtain ⟨h1, h2, _⟩ := hready.1 hi
      have := List.countP_eq_zero.1 hcnt i (List.mem_range.2 h1)
      simp [h2] at this
    exact ⟨hnil, fin hs hnil hI hV h1 h2 h3⟩
  | succ fuel ih =>
    intro listed z pd w s a hcnt hs hcl hI hV hnt hdf hws
    refine ⟨fun hnil => fin hs hnil hI hV hnt hdf hws, fun i hi => ?_⟩
    obtain ⟨hin, hnl, o, ho, hpd⟩ := hready.1 hi
    have hDi : ¬listed.getD i false = true := by rw [← hget hs hin, hnl]; simp
    have hqi := hL.qmlt i hin
    obtain ⟨ai, hai⟩ : ∃ ai, as[qm i]? = some ai := ⟨_, List.getElem?_eq_getElem (by rw [hL.len]; exact hqi)⟩
    have hcl' : ∀ (k : Nat) l, ps[k]? = some l → listed.getD (pm k) false = true → ∀ q ∈ l, listed.getD (pm q) false = true := by
      intro k l hl hk q hq
      have hkl : k < ops.size := by rw [← hL.len, hok.len]; exact (List.getElem?_eq_some_iff.1 hl).1
      have hpk := hL.pmlt k hkl
      have h1 := hps _ _ (Array.getElem?_eq_getElem hpk)
      rw [hL.qp k hkl, hl] at h1
      cases h1
      obtain ⟨q', hq', rfl⟩ := List.mem_map.1 hq
      rw [hL.pq q' (hpr _ _ (Array.getElem?_eq_getElem hpk) q' hq')]
      exact hcl _ _ (Array.getElem?_eq_getElem hpk) hk q' hq'
    have hpk : ∀ l, ps[qm i]? = some l → ∀ q ∈ l, listed.getD (pm q) false = true := by
      intro l hl q hq
      rw [hps i o ho] at hl
      cases hl
      obtain ⟨q', hq', rfl⟩ := List.mem_map.1 hq
      rw [hL.pq q' (hpr i o ho q' hq')]
      exact hpd q' hq'
    have hDk : ¬listed.getD (pm (qm i)) false = true := by rw [hL.pq i hin]; exact hDi
    obtain ⟨s1, hex, hI1⟩ := hI.step hC.md hok ht hchk hcl' hai hDk hpk
    have hset : ∀ j, (listed.setIfInBounds i true).getD j false = true ↔ (listed.getD j false = true ∨ j = i) := by
      intro j
      by_cases hj : j = i
      · subst hj
        simp [Array.getD_eq_getD_getElem?, Array.getElem?_setIfInBounds_self_of_lt (show j < listed.size by omega)]
      · simp [Array.getD_eq_getD_getElem?, Array.getElem?_setIfInBounds_ne (Ne.symm hj), hj]
    have hI2 : InvD C.md as p (fun k => (listed.setIfInBounds i true).getD (pm k) false = true) s1 := by
      have : (fun k => (listed.setIfInBounds i true).getD (pm k) false = true) = fun k => listed.getD (pm k) false = true ∨ k = qm i := funext fun k => propext (by
        rw [hset]
        refine or_congr_right ⟨fun e => ?_, fun e => by rw [e, hL.pq i hin]⟩
        by_cases hk : k < ops.size
        · rw [← hL.qp k hk, e]
        · have := hL.pmge k (by omega); omega)
      rw [this]; exact hI1
    have hcnt2 : (List.range ops.size).countP (fun j => !(listed.setIfInBounds i true).getD j true) = fuel := by
      have := countP_one (p := fun j => !listed.getD j true) (q := fun j => !(listed.setIfInBounds i true).getD j true) (i := i) (by rw [hnl]; rfl) (by
        simp [Array.getD_eq_getD_getElem?, Array.getElem?_setIfInBounds_self_of_lt (show i < listed.size by omega)]) (fun j hj => by
        simp [Array.getD_eq_getD_getElem?, Array.getElem?_setIfInBounds_ne (Ne.symm hj)]) (List.range ops.size) List.nodup_range (List.mem_range.2 hin)
      omega
    have hcl2 : ∀ (j : Nat) (o' : Oper), ops[j]? = some o' → (listed.setIfInBounds i true).getD j false = true → ∀ q ∈ preds o', (listed.setIfInBounds i true).getD q false = true := by
      intro j o' ho' hj q hq
      rw [hset] at hj ⊢
      rcases hj with hj | rfl
      · exact .inl (hcl j o' ho' hj q hq)
      · rw [ho] at ho'; cases ho'
        exact .inl (hpd q hq)
    have next : ∀ (z' : Z) (pd' : Nat → Option Nat) (w' : World) (a' : Act), InvL C N z0 lp (fun j => listed.getD j false = true ∨ j = i) s1 a' w' z' pd' → a'.tmps.size = nt → a'.defers = a0.defers → WS w0 w' →
        wpAnyIn F kk C.P .any ops Q fuel (listed.setIfInBounds i true) a' w' := fun z' pd' w' a' hV' q1 q2 q3 => by
      refine ih _ z' pd' w' s1 a' hcnt2 (by simpa using hs) hcl2 hI2 ?_ q1 q2 q3
      have : (fun j => (listed.setIfInBounds i true).getD j false = true) = fun j => listed.getD j false = true ∨ j = i := funext fun j => propext (hset j)
      rw [this]; exact hV'
    -- an operation does not look at what waits
    have clean : ∀ q ∈ lp, ∀ b, pd q.t = some b → (i ≠ q.j) → q.t ∉ ai.names ∧ ai.dst ≠ some q.t := by
      intro q hq b hb hne
      obtain ⟨q', hq', ht', hd1, hd2⟩ := hV.ofs _ _ hb
      obtain ⟨_, hjj⟩ := hL.uni q' hq' q hq ht'
      rw [hjj] at hd2
      obtain ⟨o2, x2, n2, v2, g1, _, _, _, g2, _⟩ := hL.sto q hq
      have hjl := (Array.getElem?_eq_some_iff.1 g1).1
      have hkne : qm i ≠ qm q.j := fun e => hne (by rw [← hL.pq i hin, e, hL.pq _ hjl])
      refine ⟨fun hn => ?_, fun hd => ?_⟩
      · by_cases hle : qm i ≤ qm q.j
        · exact hL.nam q hq _ _ hle hai hn
        · have hpr2 := hok.pair _ _ _ _ hai g2 hkne
          simp only [okPair, Bool.and_eq_true, Bool.or_eq_true, Bool.not_eq_true'] at hpr2
          have hord := hpr2.1.2.resolve_left (by simp [hn])
          unfold ordered at hord
          rw [if_neg (by omega)] at hord
          have hi' := anc_none hord
          have := anc_closed hok.lt hcl' (qm i) _ (List.getElem?_eq_getElem hi') (hpk _ (List.getElem?_eq_getElem hi')) (qm q.j) hord
          rw [hL.pq _ hjl] at this
          exact hd2 this
      · have := hok.pair _ _ _ _ hai g2 hkne
        simp [okPair, hd] at this
    by_cases hca : ∃ q ∈ lp, i = q.i
    · -- an alloc
      obtain ⟨q, hq, rfl⟩ := hca
      obtain ⟨o', g1, g2, g3, g4, g5, g6⟩ := hL.alo q hq
      rw [ho] at g1; cases g1
      rw [hai] at g6; cases g6
      have hs1 : s1 = s := by
        simp only [execI, exec1, op1, Option.map_some, Option.some.injEq] at hex
        exact hex.symm
      subst hs1
      obtain ⟨ob, xb, nb, v0, b1, b2, b3, b4, b5, b6, b7, b8, b9, b10⟩ := hL.sto q hq
      obtain ⟨x, hx, hrun⟩ := alloc_run b6 g2 (fun c hc => by rw [g2] at hc; cases hc)
      have hnoj : ¬listed.getD q.j false = true := fun h => hDi (hcl _ _ b1 h _ b2)
      have hji : q.j ≠ q.i := fun e => by
        rw [e, ho] at b1; cases b1; rw [g4] at b3; cases b3
      have hpdq : pd q.t = none := by
        cases hp : pd q.t with
        | none => rfl
        | some b =>
          obtain ⟨q', hq', ht', hd1, _⟩ := hV.ofs _ _ hp
          rw [(hL.uni q' hq' q hq ht').1] at hd1
          exact absurd hd1 hDi
      unfold wpOpIn
      rw [ho]
      have hw : Region.wanted o (yielded ops a.tmps) = true := by simp [Region.wanted, g3]
      simp only [hw, if_true]
      refine hrun w hF ?_
      have hgs : z.h.size = w.heap.size := by rw [hV.heap]
      have hpush : ∀ b, b < z.h.size → (z.h.push (.cells x.cells q.T (0, 0)))[b]? = z.h[b]? := fun b hb => get_push_lt hb
      obtain ⟨pd', hpd'⟩ : ∃ pd' : Nat → Option Nat, pd' = fun t => if t = q.t then some z.h.size else pd t := ⟨_, rfl⟩
      have hpself : pd' q.t = some z.h.size := by rw [hpd']; simp
      have hpne : ∀ t, t ≠ q.t → pd' t = pd t := fun t h => by rw [hpd']; simp [h]
      have hold : ∀ t b, pd t = some b → b < z.h.size := fun t b hb => by
        obtain ⟨q', hq', rfl, _, _⟩ := hV.ofs _ _ hb
        obtain ⟨_, ⟨_, _, _, _, h5⟩, _⟩ := hV.blk q' hq' b hb
        exact (Array.getElem?_eq_some_iff.1 h5).1
      have hNp : ∀ b o, Np N pd' b o → Np N pd b o ∨ (z.h.size ≤ b ∧ b < (z.h.push (.cells x.cells q.T (0, 0))).size) := by
        rintro b o (h | ⟨t, h⟩)
        · exact .inl (.inl h)
        · by_cases hte : t = q.t
          · subst hte; rw [hpself] at h; cases h; exact .inr ⟨Nat.le_refl _, by simp⟩
          · rw [hpne t hte] at h; exact .inl (.inr ⟨t, h⟩)
      have hT2 := tr2_ext (N' := Np N pd') hV.good (h' := z.h.push (.cells x.cells q.T (0, 0))) (by simp) hpush fun b o h => (hNp b o h).imp id And.left
      refine next { z with h := z.h.push (.cells x.cells q.T (0, 0)) } pd' _ _ ?_ (by rw [put_size]; exact hnt) (by rw [put_defers]; exact hdf) (hws.trans ⟨rfl, rfl, rfl⟩)
      refine ⟨good2_ext hV.good (by simp) hpush hNp, by show z.h.push _ = _; rw [hV.heap]; rfl, hV.mem, fun t => ?_, ?_, fun t b hb => ?_, fun q' hq' hd1 hd2 => ?_, fun q' hq' b hb => ?_, fun t t' b hb hb' => ?_⟩
      · by_cases hte : t = q.t
        · subst hte
          simp only [mask, hpself, Option.isSome_some, if_true]
          exact R_undef _
        · have h1 := hV.env t
          rw [put_getD_ne (by rw [g4]; exact fun e => hte (Option.some.inj e).symm)]
          simp only [mask, hpne t hte] at h1 ⊢
          exact R_step2 hT2 h1
      · exact tr_more hV.tr (tr_ext (N := Np N pd) (by simp) hpush hV.good) (fun b o h => by
          rcases h with h | ⟨t, h⟩
          · exact .inl h
          · obtain ⟨q', hq', rfl, _, _⟩ := hV.ofs _ _ h
            exact .inr (hV.blk q' hq' b h).2.2.1) fun b o h => .inl h
      · by_cases hte : t = q.t
        · subst hte; exact ⟨q, hq, rfl, .inr rfl, fun h => h.elim hnoj hji⟩
        · rw [hpne t hte] at hb
          obtain ⟨q', hq', h1, h2, h3⟩ := hV.ofs _ _ hb
          refine ⟨q', hq', h1, .inl h2, fun h => h.elim h3 fun e => ?_⟩
          obtain ⟨ob', _, _, _, c1, _, c3, _⟩ := hL.sto q' hq'
          rw [e, ho] at c1; cases c1; rw [g4] at c3; cases c3
      · by_cases hte : q'.t = q.t
        · exact ⟨_, by rw [hte]; exact hpself⟩
        · rcases hd1 with hd1 | hd1
          · obtain ⟨b, hb⟩ := hV.has q' hq' hd1 fun h => hd2 (.inl h)
            exact ⟨b, by rw [hpne _ hte]; exact hb⟩
          · obtain ⟨oa', c1, _, _, c4, _⟩ := hL.alo q' hq'
            rw [hd1, ho] at c1; cases c1
            rw [g4] at c4; exact absurd (Option.some.inj c4).symm hte
      · by_cases hte : q'.t = q.t
        · rw [hte, hpself] at hb; cases hb
          obtain ⟨hii, _⟩ := hL.uni q' hq' q hq hte
          have hTT : q'.T = q.T := by
            obtain ⟨oa', c1, c2, _⟩ := hL.alo q' hq'
            rw [hii, ho] at c1; cases c1
            have h9 := g2.symm.trans c2
            injection h9 with h9
            exact h9.symm
          refine ⟨?_, ⟨x, v0, by rw [hTT]; exact b6, hx, ?_⟩, hV.tr.size, fun hown => ?_⟩
          · rw [hte, g4, put_getD_self (by omega), hgs]
          · rw [hTT]; simp
          · have : Own z z.h.size := hown
            have := hV.good.own_lt this
            omega
        · rw [hpne _ hte] at hb
          obtain ⟨c1, ⟨x', v', c2, c3, c4⟩, c5, c6⟩ := hV.blk q' hq' b hb
          refine ⟨?_, ⟨x', v', c2, c3, ?_⟩, c5, c6⟩
          · rw [put_getD_ne (by rw [g4]; exact fun e => hte (Option.some.inj e).symm)]; exact c1
          · rw [hpush b (hold _ _ hb)]; exact c4
      · by_cases h1 : t = q.t <;> by_cases h2 : t' = q.t
        · rw [h1, h2]
        · subst h1; rw [hpself] at hb; cases hb; rw [hpne _ h2] at hb'; have := hold _ _ hb'; omega
        · subst h2; rw [hpself] at hb'; cases hb'; rw [hpne _ h1] at hb; have := hold _ _ hb; omega
        · rw [hpne _ h1] at hb; rw [hpne _ h2] at hb'; exact hV.inj _ _ _ hb hb'
    by_cases hcs : ∃ q ∈ lp, i = q.j
    · -- the store that makes the memory
      obtain ⟨q, hq, rfl⟩ := hcs
      obtain ⟨ob, xb, nb, v0, b1, b2, b3, b4, b5, b6, b7, b8, b9, b10⟩ := hL.sto q hq
      rw [ho] at b1; cases b1
      rw [hai] at b5; cases b5
      have hDa : listed.getD q.i false = true := hpd _ b2
      obtain ⟨b, hb⟩ := hV.has q hq hDa hDi
      obtain ⟨c1, ⟨x, v1, c2, c3, c4⟩, c5, c6⟩ := hV.blk q hq b hb
      rw [b6] at c2; cases c2
      obtain ⟨pd', hpd'⟩ : ∃ pd' : Nat → Option Nat, pd' = fun t => if t = q.t then none else pd t := ⟨_, rfl⟩
      have hpself : pd' q.t = none := by rw [hpd']; simp
      have hpne : ∀ t, t ≠ q.t → pd' t = pd t := fun t h => by rw [hpd']; simp [h]
      have hsub : ∀ b' o, Np N pd' b' o → Np N pd b' o := by
        rintro b' o (h | ⟨t, h⟩)
        · exact .inl h
        · by_cases hte : t = q.t
          · subst hte; rw [hpself] at h; cases h
          · rw [hpne t hte] at h; exact .inr ⟨t, h⟩
      have hbN : ∀ o, Np N pd b o := fun o => .inr ⟨_, hb⟩
      have hnb : ∀ o, ¬Np N pd' b o := by
        rintro o (h | ⟨t, h⟩)
        · have := hG0.no _ _ h; omega
        · by_cases hte : t = q.t
          · subst hte; rw [hpself] at h; cases h
          · rw [hpne t hte] at h; exact hte (hV.inj _ _ _ h hb)
      have hG1 := good_adopt (n := nb) hV.good hsub hbN hnb c6 c4 c3 b8 b9
      have hT2 := tr2_adopt (C := C) (z := z) (k := .live [v0] nb) hsub hbN
      have hT1 := tr_adopt (k := .live [v0] nb) hV.tr c5
      -- what the box gives
      have hnm : ∀ t ∈ (⟨some q.t, none, .box xb nb⟩ : AI).names, pd t = none := by
        intro t htn
        cases hp : pd t with
        | none => rfl
        | some b' =>
          obtain ⟨q', hq', rfl, _, hd2⟩ := hV.ofs _ _ hp
          by_cases hjj : q'.j = q.j
          · have := hL.nam q' hq' (qm q.j) _ (by rw [hjj]; exact Nat.le_refl _) hai htn
            exact this.elim
          · exact absurd htn (clean q' hq' b' hp (fun e => hjj e.symm)).1
      have hxv : (⟨mask pd s.env, s.mem⟩ : St).ev xb = s.ev xb := ev_congr fun t htn => by
        have := hnm t (by simp [AI.names, AOp.srcs, htn])
        simp [mask, this]
      simp only [execI, exec1, op1, Option.map_eq_some_iff] at hex
      obtain ⟨⟨vv, sv⟩, hex, rfl⟩ := hex
      obtain ⟨⟨vw, mw⟩, hex, hex2⟩ := hex
      split at hex
      case isFalse => cases hex
      rename_i hvs
      cases hex
      cases hex2
      obtain ⟨cs0, rfl⟩ : ∃ cs0, v0 = .agg cs0 := by cases v0 <;> first | exact ⟨_, rfl⟩ | cases b7
      have hlen2 : z.m.blks.length = s.mem.blks.length := by rw [hV.mem]
      obtain ⟨sA, hsA⟩ : ∃ sA : St, sA = ⟨upd (mask pd' s.env) q.t (.ptr z.m.blks.length 0 0), (z.adopt b (.live [.agg cs0] nb)).m⟩ := ⟨_, rfl⟩
      have henvA : EnvOK C (Np N pd') (z.adopt b (.live [.agg cs0] nb)) sA.env a := by
        rw [hsA]
        intro t
        by_cases hte : t = q.t
        · subst hte
          simp only [upd, if_true]
          rw [c1]
          refine R_ptr.2 ⟨by simp [Z.adopt], ⟨_, rfl⟩, fun es sz hbb => ?_⟩
          simp [Z.adopt]
        · simp only [upd, if_neg hte]
          have h1 := hV.env t
          simp only [mask, hpne t hte] at h1 ⊢
          exact R_step2 hT2 h1
      have hxA : sA.ev xb = s.ev xb := by
        rw [hsA]
        refine ev_congr fun t htn => ?_
        have h1 := hnm t (by simp [AI.names, AOp.srcs, htn])
        have hte : t ≠ q.t := fun e => by rw [e, hb] at h1; cases h1
        simp [upd, hte, mask, hpne t hte, h1]
      obtain ⟨v, hv⟩ : ∃ v, v = s.ev xb := ⟨_, rfl⟩
      rw [← hv] at hvs
      have hvc : v = .agg v.cells := by
        have := hvs.1
        cases v <;> first | rfl | (simp [AV.cells] at this; omega)
      have hst : storeAt sA.mem (.ptr z.m.blks.length 0 0) v nb = some (newBlk s.mem [v] nb) := by
        rw [hsA]
        have hbk : (z.adopt b (.live [.agg cs0] nb)).m.blks[z.m.blks.length]? = some (.live [.agg cs0] nb) := by simp [Z.adopt]
        have hwc : writeCells (.agg cs0) 0 v.cells = some v := by
          have h1 : cs0.length = nb := b9
          simp only [writeCells]
          rw [if_pos (by omega)]
          simp only [List.take_zero, List.nil_append, Nat.zero_add]
          rw [List.drop_of_length_le (by omega), List.append_nil, ← hvc]
        simp only [storeAt, hbk, List.getElem?_cons_zero, if_pos hvs, hwc, Option.map_some, List.set_cons_zero]
        simp only [Z.adopt, newBlk, hV.mem, Option.some.injEq, Mem.mk.injEq, and_true]
        rw [← hV.mem]; simp
      have hexA : execI C.ft R' ⟨none, none, .store (.t q.t) xb nb⟩ sA = some (sA.setMem (newBlk s.mem [v] nb)) := by
        have h1 : sA.ev (.t q.t) = .ptr z.m.blks.length 0 0 := by rw [hsA]; simp [St.ev, upd]
        simp only [execI, exec1, op1, h1, hxA, ← hv, hst, Option.map_some]
        rfl
      have hop := operI_sound hC hR hY hG1 (w := w) (by show z.h = w.heap; exact hV.heap) (show (z.adopt b (.live [.agg cs0] nb)).m = sA.mem by rw [hsA]) henvA (by rw [hnt]; exact b4) hexA
        (K := fun a' w' => Step C (Np N pd') (z.adopt b (.live [.agg cs0] nb)) a w (sA.setMem (newBlk s.mem [v] nb)) a' w') (Q := Q) (fun a' w' h => h) hF (k := kk)
      have hop2 : wpOpIn F kk C.P ops Q q.j (fun a' w' => Step C (Np N pd') (z.adopt b (.live [.agg cs0] nb)) a w (sA.setMem (newBlk s.mem [v] nb)) a' w') a w := by
        unfold wpOpIn; rw [ho]; exact hop
      refine wpOpIn_mono (fun a' w' hh => ?_) (wpOpIn_put ho hop2)
      obtain ⟨⟨z', d1, d2, d3, d4, d5, d6, d7, d8⟩, vv2, hput⟩ := hh
      have htm : a'.tmps = a.tmps := by rw [hput, b3]; rfl
      have hown2 : ∀ b', Own (z.adopt b (.live [.agg cs0] nb)) b' → Own z b' ∨ b' = b := by
        rintro b' (⟨id, k', h1, h2, h3⟩ | h)
        · rcases get_snoc h1 with ⟨h1, hi⟩ | ⟨rfl, _⟩
          · refine .inl (.inl ⟨id, k', h1, h2, ?_⟩)
            simp only [Z.adopt] at h3; rw [if_neg (by omega)] at h3; exact h3
          · simp only [Z.adopt, if_true] at h3; exact .inr h3.symm
        · exact .inl (.inr h)
      refine next z' pd' w' a' ?_ (by rw [htm]; exact hnt) (by rw [d7]; exact hdf) (hws.trans d8)
      refine ⟨d1, d3, d4.trans ?_, ?_, tr_more hT1 d2 (fun b' o h => ?_) (fun b' o h => .inl h), fun t b' hb' => ?_, fun q' hq' hd1 hd2 => ?_, fun q' hq' b' hb' => ?_, fun t t' b' h1 h2 => ?_⟩
      · rw [put_mem, hv]; rfl
      · have : mask pd' ((s.setMem (newBlk s.mem [s.ev xb] nb)).put (some q.t) (.ptr s.mem.blks.length 0 0)).env = sA.env := by
          rw [hsA]
          funext t
          by_cases hte : t = q.t
          · subst hte
            simp [mask, hpself, St.put, upd, hlen2]
          · simp [mask, St.put, St.setMem, upd, hte]
        rw [this]; exact d5
      · rcases h with h | ⟨t, h⟩
        · exact .inl h
        · by_cases hte : t = q.t
          · subst hte; rw [hpself] at h; cases h
          · rw [hpne t hte] at h
            obtain ⟨q', hq', rfl, _, _⟩ := hV.ofs _ _ h
            exact .inr (hV.blk q' hq' b' h).2.2.1
      · by_cases hte : t = q.t
        · subst hte; rw [hpself] at hb'; cases hb'
        · rw [hpne t hte] at hb'
          obtain ⟨q', hq', h1, h2, h3⟩ := hV.ofs _ _ hb'
          refine ⟨q', hq', h1, .inl h2, fun h => h.elim h3 fun e => ?_⟩
          obtain ⟨ob', _, _, _, e1, _, _, e4, _⟩ := hL.sto q' hq'
          rw [e, ho] at e1; cases e1
          rw [b4] at e4
          simp only [Option.some.injEq, AI.mk.injEq, AOp.store.injEq, Src.t.injEq, true_and] at e4
          exact hte (h1 ▸ e4.1.symm)
      · have hqi' : q'.i ≠ q.j := fun e => by
          obtain ⟨oa', e1, _, _, e4, _⟩ := hL.alo q' hq'
          rw [e, ho] at e1; cases e1
          rw [b3] at e4; cases e4
        obtain ⟨b', hb'⟩ := hV.has q' hq' (hd1.resolve_right hqi') fun h => hd2 (.inl h)
        by_cases hte : q'.t = q.t
        · exact absurd (.inr (hL.uni q' hq' q hq hte).2) hd2
        · exact ⟨b', by rw [hpne _ hte]; exact hb'⟩
      · by_cases hte : q'.t = q.t
        · rw [hte, hpself] at hb'; cases hb'
        · rw [hpne _ hte] at hb'
          obtain ⟨e1, ⟨x', v', e2, e3, e4⟩, e5, e6⟩ := hV.blk q' hq' b' hb'
          have hbl : b' < z.h.size := (Array.getElem?_eq_some_iff.1 e4).1
          have hnow : ¬Own (z.adopt b (.live [.agg cs0] nb)) b' := fun h => (hown2 b' h).elim e6 fun e => hte (hV.inj _ _ _ hb' (by rw [e]; exact hb))
          refine ⟨by rw [htm]; exact e1, ⟨x', v', e2, e3, ?_⟩, e5, fun h => hnow (d2.own b' hbl h)⟩
          rw [d2.other b' hbl hnow]; exact e4
      · by_cases g1 : t = q.t
        · subst g1; rw [hpself] at h1; cases h1
        · by_cases g2 : t' = q.t
          · subst g2; rw [hpself] at h2; cases h2
          · rw [hpne _ g1] at h1; rw [hpne _ g2] at h2; exact hV.inj _ _ _ h1 h2
    · -- any other operation
      obtain ⟨a2, g1, g2⟩ := hL.oth i o ho fun q hq => ⟨fun e => hca ⟨q, hq, e⟩, fun e => hcs ⟨q, hq, e⟩⟩
      rw [hai] at g1; cases g1
      have hdo : ai.dst = o.dst := (trOper_parts g2).1
      obtain ⟨v, m, hs1, _, _, hf⟩ := execI_form hC.md hex
      obtain ⟨sM, hsM⟩ : ∃ sM : St, sM = ⟨mask pd s.env, s.mem⟩ := ⟨_, rfl⟩
      have hpn : ∀ t ∈ ai.names, pd t = none := by
        intro t htn
        cases hp : pd t with
        | none => rfl
        | some b' =>
          obtain ⟨q', hq', rfl, _, _⟩ := hV.ofs _ _ hp
          exact absurd htn (clean q' hq' b' hp (fun e => hcs ⟨q', hq', e⟩)).1
      have hexM := (hf sM fun t htn => by rw [hsM]; simp [mask, hpn t htn]).1 (by rw [hsM])
      have hop := operI_sound hC hR hY hV.good hV.heap (show z.m = sM.mem by rw [hsM]; exact hV.mem) (show EnvOK C (Np N pd) z sM.env a by rw [hsM]; exact hV.env) (by rw [hnt]; exact g2) hexM
        (K := fun a' w' => Step C (Np N pd) z a w ((sM.setMem m).put ai.dst v) a' w') (Q := Q) (fun a' w' h => h) hF (k := kk)
      have hop2 : wpOpIn F kk C.P ops Q i (fun a' w' => Step C (Np N pd) z a w ((sM.setMem m).put ai.dst v) a' w') a w := by
        unfold wpOpIn; rw [ho]; exact hop
      refine wpOpIn_mono (fun a' w' hh => ?_) (wpOpIn_put ho hop2)
      obtain ⟨⟨z', d1, d2, d3, d4, d5, d6, d7, d8⟩, vv2, hput⟩ := hh
      have hdst : ∀ q ∈ lp, ∀ b, pd q.t = some b → ai.dst ≠ some q.t := fun q hq b hb => (clean q hq b hb fun e => hcs ⟨q, hq, e⟩).2
      refine next z' pd w' a' ?_ (by rw [d6]; exact hnt) (by rw [d7]; exact hdf) (hws.trans d8)
      refine ⟨d1, d3, d4.trans ?_, ?_, tr_more hV.tr d2 (fun b' o' h => ?_) (fun b' o' h => .inl h), fun t b' hb' => ?_, fun q' hq' hd1 hd2 => ?_, fun q' hq' b' hb' => ?_, hV.inj⟩
      · rw [hs1, put_mem, put_mem]; rfl
      · have : mask pd s1.env = ((sM.setMem m).put ai.dst v).env := by
          rw [hs1, hsM]
          funext t
          cases hd : ai.dst with
          | none => rfl
          | some d =>
            by_cases hte : t = d
            · subst hte
              have hpt : pd t = none := by
                cases hp : pd t with
                | none => rfl
                | some b' =>
                  obtain ⟨q', hq', rfl, _, _⟩ := hV.ofs _ _ hp
                  exact absurd hd (hdst q' hq' b' hp)
              simp [mask, hpt, St.put, St.setMem, upd]
            · simp [mask, St.put, St.setMem, upd, hte]
        rw [this]; exact d5
      · rcases h with h | ⟨t, h⟩
        · exact .inl h
        · obtain ⟨q', hq', rfl, _, _⟩ := hV.ofs _ _ h
          exact .inr (hV.blk q' hq' b' h).2.2.1
      · obtain ⟨q', hq', h1, h2, h3⟩ := hV.ofs _ _ hb'
        exact ⟨q', hq', h1, .inl h2, fun h => h.elim h3 fun e => hcs ⟨q', hq', e.symm⟩⟩
      · exact hV.has q' hq' (hd1.resolve_right fun e => hca ⟨q', hq', e.symm⟩) fun h => hd2 (.inl h)
      · obtain ⟨e1, ⟨x', v', e2, e3, e4⟩, e5, e6⟩ := hV.blk q' hq' b' hb'
        have hbl : b' < z.h.size := (Array.getElem?_eq_some_iff.1 e4).1
        refine ⟨?_, ⟨x', v', e2, e3, by rw [d2.other b' hbl e6]; exact e4⟩, e5, fun h => e6 (d2.own b' hbl h)⟩
        rw [hput, put_getD_ne (by rw [← hdo]; exact hdst q' hq' b' hb')]; exact e1
end
end Go.Ab
end

section
/-
  An entry of a map that is changed in place: what comes of the operations in any order.
-/
namespace Go.Ab
open Go.MapKept
/-! ### The maps -/
theorem keq_refl {ek : EK} {key : AV} (h : isKey ek key = true) : keq ek key key = some true := by
  have hs : ∀ l : List AV, l.all isI = true → eqs (List.replicate l.length .i) l l = some true := by
    intro l
    induction l with
    | nil => intro _; rfl
    | cons a r ih =>
      intro h
      simp only [List.all_cons, Bool.and_eq_true] at h
      cases a <;> first | (cases h.1; done) | skip
      simp only [List.length_cons, List.replicate_succ, eqs, eq1, if_true, beq_self_eq_true, Option.bind_some, ih h.2, Option.map_some, Bool.and_self]
  cases ek with
  | n m =>
    cases key <;> first | (cases h; done) | skip
    rename_i l
    have h0 : (l.length == m && l.all isI) = true := h
    rw [Bool.and_eq_true, beq_iff_eq] at h0
    obtain ⟨rfl, h1⟩ := h0
    exact hs l h1
  | _ => cases key <;> first | (cases h; done) | simp [keq, eq1]
theorem mfind_no {ek : EK} {key : AV} : ∀ {kvs : List (AV × AV)} {i : Nat}, mfind ek key kvs i = some none → ∀ p ∈ kvs, keq ek key p.1 = some false
  | [], _, _, p, hp => by simp at hp
  | q :: r, i, h, p, hp => by
    unfold mfind at h
    split at h
    · split at h <;> cases h
    · rename_i h1
      rcases List.mem_cons.1 hp with rfl | hp
      · exact h1
      · exact mfind_no h p hp
    · cases h
theorem mfind_new {ek : EK} {key v : AV} (hk : isKey ek key = true) {b : List (AV × AV)} (hb : ∀ p ∈ b, keq ek key p.1 = some false) : ∀ {a : List (AV × AV)} (_ : ∀ p ∈ a, keq ek key p.1 = some false) (i : Nat), mfind ek key (a ++ (key, v) :: b) i = some (some (i + a.length, v))
  | [], _, i => by
    have ha : ek.alone key b = true := by
      cases ek <;> first | rfl | skip
      simp only [EK.alone, List.all_eq_true]
      intro q hq
      rw [hb q hq]; rfl
    simp [mfind, keq_refl hk, ha]
  | p :: a, h, i => by
    have h1 := h p (by simp)
    have ih := mfind_new (v := v) hk hb (a := a) (fun p hp => h p (by simp [hp])) (i + 1)
    simp only [List.cons_append, mfind, h1, ih, List.length_cons]
    congr 3; omega
theorem mget_new {ek : EK} {key z0 v : AV} {kvs kvs' : List (AV × AV)} (hk : isKey ek key = true) (hf : mfind ek key kvs 0 = some none) (h : mputL ek kvs key v = some kvs') : mgetL ek z0 false kvs' key = some v := by
  unfold mputL at h
  rw [hf] at h
  simp only [Option.map_some, Option.some.injEq] at h
  obtain ⟨a, b, e1, e2, _⟩ := ins_split ek key v kvs
  have hno := mfind_no hf
  rw [e1] at hno
  have := mfind_new (v := v) hk (b := b) (fun p hp => hno p (by simp [hp])) (a := a) (fun p hp => hno p (by simp [hp])) 0
  unfold mgetL
  rw [← h, e2, this]; rfl
theorem findIdx_stamp {l : List MapEntry} (hn : (l.map (·.born)).Nodup) {j : Nat} {e0 : MapEntry} (h : l[j]? = some e0) : l.findIdx? (fun e => ((e.born : Nat) : Int) == ((e0.born : Nat) : Int)) = some j := by
  induction l generalizing j with
  | nil => simp at h
  | cons a r ih =>
    simp only [List.map_cons, List.nodup_cons] at hn
    cases j with
    | zero =>
      simp only [List.getElem?_cons_zero, Option.some.injEq] at h
      subst h
      simp [List.findIdx?_cons]
    | succ j =>
      simp only [List.getElem?_cons_succ] at h
      have hne : a.born ≠ e0.born := fun e1 => hn.1 (List.mem_map.2 ⟨e0, List.mem_of_getElem? h, e1.symm⟩)
      have hb : (((a.born : Nat) : Int) == ((e0.born : Nat) : Int)) = false := by
        simp only [beq_eq_false_iff_ne, ne_eq, Int.natCast_inj]
        exact hne
      rw [List.findIdx?_cons, hb]
      simp [ih hn.2 h]
section
variable {C : Cx} {N : Nat → Nat → Prop} {z : Z} {w : World}
theorem entry_facts (hG : Good C N z) (hh : z.h = w.heap) {t : TypeId} {ek : EK} {e : TypeId} (ht : mapT C.P t = some (ek, e)) {k0 : IntKind} {n0 : Int} (hz : zeroT C.P e = some (.int k0 n0)) {x key v0 : AV} {xv kv : Value}
    (hx : R C.P N z x xv) (hk : R C.P N z key kv) {m' : Mem} (h : mputAt z.m ek x key v0 = some m') :
    ∃ (w1 : World) (v1 : Value) (st : Nat) (fin : Value → World), (Instr.mapEntry t xv kv).run C.P w = .ok (.tuple #[v1, goInt st]) w1 ∧ WS w w1 ∧
      (∃ u, (Instr.lookup t xv kv false).run C.P w = .ok u w ∧ (Instr.lookup t xv kv false).run C.P w1 = .ok u w1) ∧
      ∀ vv, (Instr.entryStore t xv (goInt st) vv).run C.P w1 = .ok () (fin vv) ∧ (Instr.mapUpdate t xv kv vv).run C.P w = .ok () (fin vv) := by
  obtain ⟨k, d, h1, h2, h3, hKT⟩ := mapT_eq ht
  have h0 := h
  unfold mputAt at h
  split at h
  · rename_i id
    split at h
    · rename_i kvs ek' hb
      split at h
      · rename_i hc
        obtain rfl := EK.same_eq hc.1
        obtain ⟨hid, rfl⟩ := R_mp.1 hx
        obtain ⟨es, clock, h4, h5⟩ := hG.mp id kvs ek hb
        rw [hh] at h4
        obtain ⟨kvs', h6, h7⟩ := Option.map_eq_some_iff.1 h
        have h6' := h6
        unfold mputL at h6
        obtain ⟨r, h6, h8⟩ := Option.map_eq_some_iff.1 h6
        have hf := mfind_perm (w := w) h3 hKT hc.2 hk h5 h6
        have hbl : z.ρ id < w.heap.size := (Array.getElem?_eq_some_iff.1 h4).1
        cases r with
        | none =>
          replace hf : FindK C w k d kv es.toList 0 none := hf
          obtain ⟨x0, h8', h9⟩ := zeroT_sound (w := w) (N := N) (z := z) hz
          obtain rfl := R_int.1 h9
          have hst : ((∀ e ∈ es.toList, e.born < clock) ∧ (es.toList.map (·.born)).Nodup) := by
            obtain ⟨es', hp, _, hm⟩ := h5
            exact ⟨fun e he => hm.1.2.1 e (hp.symm.subset he), (hp.map _).nodup_iff.1 hm.1.2.2⟩
          obtain ⟨w1, hw1⟩ : ∃ w1 : World, w1 = { w with heap := w.heap.setIfInBounds (z.ρ id) (.map (es.push { key := kv, val := .int k0 n0, born := clock }) (clock + 1)) } := ⟨_, rfl⟩
          have hb1 : w1.heap[z.ρ id]? = some (.map (es.push { key := kv, val := .int k0 n0, born := clock }) (clock + 1)) := by
            rw [hw1]; simp [Array.getElem?_setIfInBounds_self_of_lt hbl]
          -- the map with a zero in it
          obtain ⟨mz, hmz⟩ : ∃ mz, mputAt z.m ek (.mp id) key (.int k0 n0) = some mz := by
            simp only [mputAt, hb, if_pos hc, mputL, h6, Option.map_some]
            exact ⟨_, rfl⟩
          have hput := mput_sound hG hh ht hx hk h9 hmz
          have hrunz : (Instr.mapUpdate t (.map (some (z.ρ id))) kv (.int k0 n0)).run C.P w = .ok () w1 := by
            rw [hw1]
            simp [Instr.mapUpdate, run_underlying h1, MapKept.run_getObj_map h4, run_checkKey_ek h3 hKT h2 hc.2 hk, run_findKeyK h2 hf, MapKept.run_setObj_map _ h4, Result.andThen]
          obtain ⟨v', w', z', hr, _, hG', hT', hh', hm', _⟩ := hput
          have hw' : w' = w1 := by
            rw [show ((do Instr.mapUpdate t (.map (some (z.ρ id))) kv (.int k0 n0); pure .skip : Sem Next).run C.P w) = .ok .skip w1 by simp [hrunz, Result.andThen]] at hr
            rcases hr with hr | ⟨hr, _⟩ <;> cases hr; rfl
          subst hw'
          have hget : mgetAt z'.m ek (.int k0 n0) false (.mp id) key = some (.int k0 n0) := by
            rw [hm']
            simp only [mputAt, hb, if_pos hc] at hmz
            obtain ⟨kz, hkz, rfl⟩ := Option.map_eq_some_iff.1 hmz
            have hil := (List.getElem?_eq_some_iff.1 hb).1
            simp only [mgetAt, List.getElem?_set_self hil, if_pos hc]
            exact mget_new hc.2 h6 hkz
          obtain ⟨u, hu1, hu2⟩ := mget_sound hG' hh' ht hz (R_step hT' hx) (R_step hT' hk) hget
          obtain rfl := R_int.1 hu2
          refine ⟨w', .int k0 n0, clock, fun vv => { w with heap := w.heap.setIfInBounds (z.ρ id) (.map (es.push { key := kv, val := vv, born := clock }) (clock + 1)) }, ?_, by rw [hw1]; exact ⟨rfl, rfl, rfl⟩, ⟨.int k0 n0, ?_, hu1⟩, fun vv => ⟨?_, ?_⟩⟩
          · rw [hw1]
            simp [Instr.mapEntry, run_underlying h1, MapKept.run_getObj_map h4, run_checkKey_ek h3 hKT h2 hc.2 hk, run_findKeyK h2 hf, h8', MapKept.run_setObj_map _ h4, Result.andThen]
          · simp [Instr.lookup, run_underlying h1, MapKept.run_getObj_map h4, run_checkKey_ek h3 hKT h2 hc.2 hk, run_findKeyK h2 hf, h8', Result.andThen]
          · have hidx : (es.push ({ key := kv, val := .int k0 n0, born := clock } : MapEntry)).findIdx? (fun e => ((e.born : Nat) : Int) == ((clock : Nat) : Int)) = some es.size := by
              have := findIdx_stamp (l := (es.push ({ key := kv, val := .int k0 n0, born := clock } : MapEntry)).toList) (j := es.size) (e0 := ⟨kv, .int k0 n0, clock⟩) (by
                simp only [Array.toList_push, List.map_append, List.map_cons, List.map_nil]
                refine List.nodup_append.2 ⟨hst.2, by simp, fun a ha c hc e1 => ?_⟩
                simp only [List.mem_singleton] at hc
                obtain ⟨x, hx, rfl⟩ := List.mem_map.1 ha
                have := hst.1 x hx
                omega) (by simp)
              rw [← this]
              cases es; simp
            have hmod : (es.push ({ key := kv, val := .int k0 n0, born := clock } : MapEntry)).modify es.size (fun e => { e with val := vv }) = es.push { key := kv, val := vv, born := clock } := by
              apply Array.ext'
              refine List.ext_getElem? fun q => ?_
              rw [Array.getElem?_toList, Array.getElem?_modify, Array.getElem?_toList]
              by_cases hq : es.size = q
              · subst hq; simp
              · rw [if_neg hq]
                simp only [Array.getElem?_push]
                split
                · rename_i h'; exact absurd h'.symm hq
                · rfl
            simp [Instr.entryStore, MapKept.run_getObj_map hb1, Go.asInt, Go.asIntOf, goInt, hidx, hmod, MapKept.run_setObj_map _ hb1, Result.andThen]
            rw [hw1]; simp
          · simp [Instr.mapUpdate, run_underlying h1, MapKept.run_getObj_map h4, run_checkKey_ek h3 hKT h2 hc.2 hk, run_findKeyK h2 hf, MapKept.run_setObj_map _ h4, Result.andThen]
        | some jv =>
          obtain ⟨j, v1⟩ := jv
          obtain ⟨es', i, f, hp, hn, hmm, g9, h9, h10, h11, _, hpe⟩ := hf
          have h9' : es[i]? = some f := by rw [← Array.getElem?_toList]; exact h9
          have hst : (Instr.keyThatStays kv kv).run C.P w = .ok kv w := by
            by_cases hn : ∃ m, ek = .n m
            · obtain ⟨m, rfl⟩ := hn
              exact keyStays_n hc.2 hk
            obtain ⟨dd, hdd⟩ : ∃ dd, IsKey dd kv := by
              cases ek <;> cases key <;> first | (exfalso; cases hc.2; done) | exact absurd ⟨_, rfl⟩ hn | skip
              · obtain rfl := R_bool.1 hk; exact ⟨.bool, trivial⟩
              · obtain rfl := R_int.1 hk; exact ⟨.int _, rfl⟩
              · obtain rfl := R_str.1 hk; exact ⟨.string, trivial⟩
            exact run_keyThatStays hdd
          have hil := (List.getElem?_eq_some_iff.1 h9).1
          have hmod : es.modify i (fun e => { e with key := kv }) = es := by
            apply Array.ext'
            refine List.ext_getElem? fun q => ?_
            rw [Array.getElem?_toList, Array.getElem?_modify, Array.getElem?_toList]
            by_cases hq : i = q
            · subst hq; rw [if_pos rfl, h9']; simp [← h10]
            · rw [if_neg hq]
          have hsame : w.heap.setIfInBounds (z.ρ id) (.map es clock) = w.heap := by
            apply Array.ext'
            refine List.ext_getElem? fun q => ?_
            rw [Array.getElem?_toList, Array.getElem?_toList]
            by_cases hq : z.ρ id = q
            · subst hq; rw [Array.getElem?_setIfInBounds_self_of_lt hbl, h4]
            · rw [Array.getElem?_setIfInBounds_ne hq]
          have hnd : (es.toList.map (·.born)).Nodup := by
            exact (hp.map _).nodup_iff.1 hmm.1.2.2
          refine ⟨w, f.val, f.born, fun vv => { w with heap := w.heap.setIfInBounds (z.ρ id) (.map (es.modify i fun e => { e with key := kv, val := vv }) clock) }, ?_, WS.refl w, ⟨f.val, ?_, ?_⟩, fun vv => ⟨?_, ?_⟩⟩
          · have : (Instr.mapEntry t (.map (some (z.ρ id))) kv).run C.P w = .ok (.tuple #[f.val, goInt f.born]) { w with heap := w.heap.setIfInBounds (z.ρ id) (.map es clock) } := by
              simp [Instr.mapEntry, run_underlying h1, MapKept.run_getObj_map h4, run_checkKey_ek h3 hKT h2 hc.2 hk, run_findKeyK h2 h11, h9', h10, hst, hmod, MapKept.run_setObj_map _ h4, Result.andThen]
            rw [this, hsame]
          · simp [Instr.lookup, run_underlying h1, MapKept.run_getObj_map h4, run_checkKey_ek h3 hKT h2 hc.2 hk, run_findKeyK h2 h11, Result.andThen]
          · simp [Instr.lookup, run_underlying h1, MapKept.run_getObj_map h4, run_checkKey_ek h3 hKT h2 hc.2 hk, run_findKeyK h2 h11, Result.andThen]
          · have hidx : es.findIdx? (fun e => ((e.born : Nat) : Int) == ((f.born : Nat) : Int)) = some i := by
              have := findIdx_stamp hnd h9
              rw [← this]
              cases es; simp
            have hmod2 : es.modify i (fun e => { e with val := vv }) = es.modify i (fun e' => { e' with key := kv, val := vv }) := by
              apply Array.ext'
              refine List.ext_getElem? fun q => ?_
              rw [Array.getElem?_toList, Array.getElem?_toList, Array.getElem?_modify, Array.getElem?_modify]
              by_cases hq : i = q
              · subst hq; rw [if_pos rfl, if_pos rfl, h9']; simp [← h10]
              · rw [if_neg hq, if_neg hq]
            simp [Instr.entryStore, MapKept.run_getObj_map h4, Go.asInt, Go.asIntOf, goInt, hidx, hmod2, MapKept.run_setObj_map _ h4, Result.andThen]
          · simp [Instr.mapUpdate, run_underlying h1, MapKept.run_getObj_map h4, run_checkKey_ek h3 hKT h2 hc.2 hk, run_findKeyK h2 h11, h9', h10, hst, MapKept.run_setObj_map _ h4, Result.andThen]
      · cases h
    · cases h
  · cases h
end
/-! ### A region's bookkeeping -/
theorem ready_iff {ops : Array Oper} {listed : Array Bool} {i : Nat} : i ∈ Region.ready .any ops listed ↔ i < ops.size ∧ listed.getD i true = false ∧ ∃ o, ops[i]? = some o ∧ ∀ q ∈ preds o, listed.getD q false = true := by
  simp only [Region.ready, List.mem_filter, List.mem_range, Bool.and_eq_true, Bool.not_eq_true']
  refine and_congr_right fun hi => and_congr_right fun _ => ?_
  rw [Array.getElem?_eq_getElem hi]
  simp only [Option.map_some, Option.getD_some, Array.all_eq_true', Bool.or_eq_true, Bool.not_eq_true']
  constructor
  · intro h
    refine ⟨_, rfl, fun q hq => ?_⟩
    simp only [preds, List.mem_filterMap] at hq
    obtain ⟨e, he, h1⟩ := hq
    split at h1
    · rename_i hb
      cases h1
      exact (h e (by simpa using he)).resolve_left (by simp [hb])
    · cases h1
  · rintro ⟨o, ho, h⟩ e he
    cases ho
    by_cases hb : Region.binds .any e = true
    · exact .inr (h e.on (by simp only [preds, List.mem_filterMap]; exact ⟨e, by simpa using he, by simp [hb]⟩))
    · exact .inl (by simpa using hb)
theorem getD_lt {listed : Array Bool} {i : Nat} (hi : i < listed.size) : listed.getD i true = listed.getD i false := by
  rw [Array.getD_eq_getD_getElem?, Array.getD_eq_getD_getElem?, Array.getElem?_eq_getElem hi]; rfl
theorem set_iff {listed : Array Bool} {i : Nat} (hi : i < listed.size) (j : Nat) : (listed.setIfInBounds i true).getD j false = true ↔ (listed.getD j false = true ∨ j = i) := by
  by_cases hj : j = i
  · subst hj
    simp [Array.getD_eq_getD_getElem?, Array.getElem?_setIfInBounds_self_of_lt hi]
  · simp [Array.getD_eq_getD_getElem?, Array.getElem?_setIfInBounds_ne (Ne.symm hj), hj]
theorem count_set {ops : Array Oper} {listed : Array Bool} {i fuel : Nat} (hs : listed.size = ops.size) (hi : i < ops.size) (hl : listed.getD i true = false) (h : (List.range ops.size).countP (fun j => !listed.getD j true) = fuel + 1) :
    (List.range ops.size).countP (fun j => !(listed.setIfInBounds i true).getD j true) = fuel := by
  have := countP_one (p := fun j => !listed.getD j true) (q := fun j => !(listed.setIfInBounds i true).getD j true) (i := i) (by rw [hl]; rfl) (by
    simp [Array.getD_eq_getD_getElem?, Array.getElem?_setIfInBounds_self_of_lt (show i < listed.size by omega)]) (fun j hj => by
    simp [Array.getD_eq_getD_getElem?, Array.getElem?_setIfInBounds_ne (Ne.symm hj)]) (List.range ops.size) List.nodup_range (List.mem_range.2 hi)
  omega
theorem any_end {F : Fence} {k : Nat} {P : Program} {ops : Array Oper} {Q : Exit → Act → World → Prop} {listed : Array Bool} {a : Act} {w : World} (h : ∀ i, i < ops.size → listed.getD i true = true) (hQ : Q .normal a w) : ∀ fuel, wpAnyIn F k P .any ops Q fuel listed a w := by
  have hnil : Region.ready .any ops listed = [] := List.eq_nil_iff_forall_not_mem.2 fun i hi => by
    obtain ⟨h1, h2, _⟩ := ready_iff.1 hi
    rw [h i h1] at h2; cases h2
  intro fuel
  cases fuel with
  | zero => exact ⟨hnil, hQ⟩
  | succ n => exact ⟨fun _ => hQ, fun i hi => by rw [hnil] at hi; cases hi⟩
theorem wpIn_val {F : Fence} (hF : WideF F) {k : Nat} {P : Program} {o : Oper} (hd : ∀ c, o.op ≠ .defer c) {a : Act} {w w1 : World} {v : Value} {K : Act → World → Prop} {Q : Exit → Act → World → Prop} (hr : (execOp a.eval o).run P w = .ok (.value v) w1) (hK : K (a.put o.dst v) w1) : o.wpIn F k P a w K Q := by
  refine ⟨fun f _ => hF.fn f, ?_⟩
  rw [Oper.semAt_plain F _ _ hd, hr, Oper.uponIn_value]
  exact hK
theorem wpIn_skp {F : Fence} (hF : WideF F) {k : Nat} {P : Program} {o : Oper} (hd : ∀ c, o.op ≠ .defer c) {a : Act} {w w1 : World} {K : Act → World → Prop} {Q : Exit → Act → World → Prop} (hr : (execOp a.eval o).run P w = .ok .skip w1) (hK : K (a.put o.dst undef) w1) : o.wpIn F k P a w K Q := by
  refine ⟨fun f _ => hF.fn f, ?_⟩
  rw [Oper.semAt_plain F _ _ hd, hr, Oper.uponIn_skip]
  exact hK
section
variable {C : Cx} {N : Nat → Nat → Prop} {z : Z} {w : World}
structure TriF (C : Cx) (ow : Ow) (nt : Nat) (ops : Array Oper) (q : Tri) (as : List AI) : Prop where
  len : as.length = ops.size
  ent : ∃ o, ops[q.i]? = some o ∧ o.op = .mapEntry q.T (.tmp q.tx) (.tmp q.tk) ∧ o.guard = none ∧ o.dst = some q.t1 ∧ as[q.i]? = some ⟨some q.t1, none, .mov (.c .undef)⟩
  ext : ∃ o, ops[q.i + 1]? = some o ∧ o.op = .extract (.tmp q.t1) 1 ∧ o.guard = none ∧ o.dst = some q.t2 ∧ as[q.i + 1]? = some ⟨some q.t2, none, .mov (.c .undef)⟩
  put : ∃ o ek e k0 n0 sv, ops[q.k]? = some o ∧ o.op = .entryStore q.T (.tmp q.tx) (.tmp q.t2) q.v ∧ o.guard = none ∧ o.dst = none ∧ mapT C.P q.T = some (ek, e) ∧ zeroT C.P e = some (.int k0 n0) ∧ trX C.G q.v = some sv ∧
    as[q.k]? = some ⟨none, none, .mput ek (.t q.tx) (.t q.tk) sv⟩
  l1 : q.t1 < nt
  l2 : q.t2 < nt
  ne : q.t1 ≠ q.t2
  ik : q.i + 1 < q.k
  kl : q.k < ops.size
  oth : ∀ n o, ops[n]? = some o → n ≠ q.i → n ≠ q.i + 1 → n ≠ q.k → ∃ a, as[n]? = some a ∧ trOper C.P C.G ow nt ops o = some a ∧
    ((n < q.i ∧ ((ancs (ops.toList.map preds) []).getD q.i 0).testBit n = true) ∨ (isMid q o = true ∧ isBin a.op = true))
  nam : ∀ (n : Nat) (a : AI), as[n]? = some a → q.t1 ∉ a.names ∧ q.t2 ∉ a.names
  las : ∀ n, n < ops.size → n ≠ q.k → n < q.k ∧ ((ancs (ops.toList.map preds) []).getD q.k 0).testBit n = true
  jai : ((ancs (ops.toList.map preds) []).getD (q.i + 1) 0).testBit q.i = true
theorem bin_of {P : Program} {G : Nat → Option AV} {ow : Ow} {f : Bool} {ops : Array Oper} {op : BinOp} {T yt : TypeId} {x y : Operand} {a0 : AOp} (h : trOp P G ow (.binOp op T x y yt) = some a0) (hb : isBin (onto0 f ops a0) = true) :
    ∃ sx sy, trX G x = some sx ∧ trX G y = some sy ∧ onto0 f ops a0 = .bin op sx sy := by
  simp only [trOp] at h
  split at h
  all_goals first
    | (cases h; done)
    | (simp only [bind, pure, Option.bind_eq_some_iff, Option.some.injEq] at h; obtain ⟨sx, r1, sy, r2, e9⟩ := h; subst e9; exact ⟨sx, sy, r1, r2, rfl⟩)
    | (split at h <;> first
      | (cases h; done)
      | (exfalso; simp only [bind, pure, Option.bind_eq_some_iff, Option.some.injEq] at h; obtain ⟨_, _, _, _, _, _, e9⟩ := h; subst e9; cases hb)
      | (exfalso; obtain ⟨_, _, e9⟩ := Option.map_eq_some_iff.1 h; subst e9; cases hb))
theorem put_getD_ne' {a : Act} {d : Option Nat} {v : Value} {t : Nat} (h : d ≠ some t) : (a.put d v).tmps.getD t undef = a.tmps.getD t undef := by
  cases d with
  | none => rfl
  | some d =>
    have hne : d ≠ t := fun e => h (by rw [e])
    simp [Act.put, Array.getD_eq_getD_getElem?, Array.getElem?_setIfInBounds_ne hne]
theorem put_getD_self' {a : Act} {v : Value} {t : Nat} (h : t < a.tmps.size) : (a.put (some t) v).tmps.getD t undef = v := by
  simp [Act.put, Array.getD_eq_getD_getElem?, Array.getElem?_setIfInBounds_self_of_lt h]
theorem region_triB (hC : C.OK) {R' : Run} {ow : Ow} {nt : Nat} {ops : Array Oper} {q : Tri} {as : List AI} (hT : TriF C ow nt ops q as) {chks : List (Nat × Nat)} (hok : OkD C.md chks (ops.toList.map preds) as) {p : Nat → St} (ht : Trace C.ft R' as p)
    (hchk : chkAll chks (p as.length).env = true) {F : Fence} {kk : Nat} (hF : WideF F) {Q : Exit → Act → World → Prop} {w0 wB : World} (hG : Good C N z) (hh : z.h = w0.heap) (hws : WS w0 wB) {xv kv v1 u : Value} {st : Nat} {fin : Value → World}
    (look0 : (Instr.lookup q.T xv kv false).run C.P w0 = .ok u w0) (look1 : (Instr.lookup q.T xv kv false).run C.P wB = .ok u wB)
    (sto : ∀ vv, (Instr.entryStore q.T xv (goInt st) vv).run C.P wB = .ok () (fin vv) ∧ (Instr.mapUpdate q.T xv kv vv).run C.P w0 = .ok () (fin vv)) {df : List Deferred}
    (hK : ∀ a' w' z', Good C N z' → Tr C.P N z z' → z'.h = w'.heap → z'.m = (p as.length).mem → EnvOK C N z' (p as.length).env a' → a'.tmps.size = nt → a'.defers = df → WS w0 w' → Q .normal a' w') :
    ∀ (fuel : Nat) (listed : Array Bool) (s : St) (a : Act), (List.range ops.size).countP (fun i => !listed.getD i true) = fuel → listed.size = ops.size →
      (∀ (i : Nat) l, (ops.toList.map preds)[i]? = some l → listed.getD i false = true → ∀ q ∈ l, listed.getD q false = true) → InvD C.md as p (fun i => listed.getD i false = true) s →
      listed.getD q.i false = true → ¬listed.getD q.k false = true → a.tmps.size = nt → a.defers = df → z.m = s.mem → EnvOK C N z s.env a → a.tmps.getD q.tx undef = xv → a.tmps.getD q.tk undef = kv →
      a.tmps.getD q.t1 undef = .tuple #[v1, goInt st] → (listed.getD (q.i + 1) false = true → a.tmps.getD q.t2 undef = goInt st) → wpAnyIn F kk C.P .any ops Q fuel listed a wB := by
  have hpr : ∀ {i : Nat} {l : List Nat} {o : Oper}, ops[i]? = some o → (ops.toList.map preds)[i]? = some l → l = preds o := fun ho hl => by
    rw [List.getElem?_map, Array.getElem?_toList, ho] at hl; cases hl; rfl
  intro fuel
  induction fuel with
  | zero =>
    intro listed s a hcnt hs hcl hI hli hlk hnt hdf hm he hx hk h1 h2
    exfalso
    have := List.countP_eq_zero.1 hcnt q.k (List.mem_range.2 hT.kl)
    rw [getD_lt (by rw [hs]; exact hT.kl)] at this
    cases h9 : listed.getD q.k false with
    | true => exact hlk h9
    | false => rw [h9] at this; exact this rfl
  | succ fuel ih =>
    intro listed s a hcnt hs hcl hI hli hlk hnt hdf hm he hx hk h1 h2
    obtain ⟨om, ek, e, k0, n0, sv, m1, m2, m3, m4, m5, m6, m7, m8⟩ := hT.put
    refine ⟨fun hnil => ?_, fun i hi => ?_⟩
    · exfalso
      -- the last one is ready at the latest
      have hall : ∀ n, n < ops.size → listed.getD n false = true := by
        intro n
        induction n using Nat.strongRecOn with
        | _ n ihn =>
          intro hn
          refine Classical.byContradiction fun hno => ?_
          have : n ∈ Region.ready .any ops listed := by
            refine ready_iff.2 ⟨hn, by rw [getD_lt (by omega)]; simpa using hno, _, Array.getElem?_eq_getElem hn, fun r hr => ?_⟩
            have hlt := hok.lt n (preds ops[n]) (by rw [List.getElem?_map, Array.getElem?_toList, Array.getElem?_eq_getElem hn]; rfl) r hr
            exact ihn r hlt (by omega)
          rw [hnil] at this; cases this
      exact hlk (hall q.k hT.kl)
    obtain ⟨hin, hnl, o, ho, hp⟩ := ready_iff.1 hi
    have hDi : ¬listed.getD i false = true := by rw [← getD_lt (by omega), hnl]; simp
    have hpl : ∀ l, (ops.toList.map preds)[i]? = some l → ∀ r ∈ l, listed.getD r false = true := fun l hl r hr => hp r (by rw [hpr ho hl] at hr; exact hr)
    have hcnt2 := count_set hs hin hnl hcnt
    have hset := set_iff (listed := listed) (i := i) (by omega)
    have hcl2 : ∀ (j : Nat) l, (ops.toList.map preds)[j]? = some l → (listed.setIfInBounds i true).getD j false = true → ∀ r ∈ l, (listed.setIfInBounds i true).getD r false = true := fun j l hl hj r hr => by
      rw [hset] at hj ⊢
      rcases hj with hj | rfl
      · exact .inl (hcl j l hl hj r hr)
      · exact .inl (hpl l hl r hr)
    have hI2 : ∀ {s1 : St}, InvD C.md as p (fun j => listed.getD j false = true ∨ j = i) s1 → InvD C.md as p (fun j => (listed.setIfInBounds i true).getD j false = true) s1 := fun h => by
      have : (fun j => (listed.setIfInBounds i true).getD j false = true) = fun j => listed.getD j false = true ∨ j = i := funext fun j => propext (hset j)
      rw [this]; exact h
    have hwp : ∀ {K : Act → World → Prop}, o.guard = none → o.wpIn F kk C.P a wB K Q → wpOpIn F kk C.P ops Q i K a wB := fun hg hw => by
      unfold wpOpIn
      rw [ho]
      have : Region.wanted o (yielded ops a.tmps) = true := by simp [Region.wanted, hg]
      simp only [this, if_true]; exact hw
    by_cases hik : i = q.k
    · subst hik
      rw [ho] at m1; cases m1
      obtain ⟨s1, hex, hI1⟩ := hI.step hC.md hok ht hchk hcl m8 hDi hpl
      have hl2 : listed.getD (q.i + 1) false = true := by
        have := (hT.las (q.i + 1) (by have := hT.ik; have := hT.kl; omega) (by have := hT.ik; omega)).2
        exact anc_closed hok.lt hcl q.k _ (List.getElem?_eq_getElem (anc_none this)) (hpl _ (List.getElem?_eq_getElem (anc_none this))) _ this
      simp only [execI, exec1, op1, Option.map_map, Option.map_eq_some_iff] at hex
      obtain ⟨m', hput, rfl⟩ := hex
      simp only [Function.comp, St.put] at hI1
      have hxR := he q.tx
      have hkR := he q.tk
      rw [hx] at hxR
      rw [hk] at hkR
      have hvR := trX_sound hG he m7
      rw [← hm] at hput
      obtain ⟨v', w', z', hr, _, g1, g2, g3, g4, g5⟩ := mput_sound hG hh m5 hxR hkR hvR hput
      obtain ⟨f1, f2⟩ := sto (a.eval q.v)
      have hw' : w' = fin (a.eval q.v) := by
        rw [show ((do Instr.mapUpdate q.T xv kv (a.eval q.v); pure .skip : Sem Next).run C.P w0) = .ok .skip (fin (a.eval q.v)) by simp [f2, Result.andThen]] at hr
        rcases hr with hr | ⟨hr, _⟩ <;> cases hr; rfl
      subst hw'
      have e1 : a.eval (.tmp q.tx) = xv := hx
      have e2 : a.eval (.tmp q.t2) = goInt st := h2 hl2
      refine hwp m3 (wpIn_skp hF (fun c hc => by rw [m2] at hc; cases hc) (w1 := fin (a.eval q.v)) ?_ ?_)
      · unfold execOp
        rw [m2]
        simp [e1, e2, f1, Result.andThen]
      · rw [m4]
        have hall : ∀ j, j < ops.size → (listed.setIfInBounds q.k true).getD j false = true := fun j hj => by
          rw [hset]
          by_cases hjk : j = q.k
          · exact .inr hjk
          · have := (hT.las j hj hjk).2
            exact .inl (anc_closed hok.lt hcl q.k _ (List.getElem?_eq_getElem (anc_none this)) (hpl _ (List.getElem?_eq_getElem (anc_none this))) _ this)
        have hend := (hI2 hI1).all hC.md hok ht (fun j hj => hall j (by rw [← hT.len]; exact hj))
        refine any_end (fun j hj => by rw [getD_lt (by simpa using by omega)]; exact hall j hj) ?_ fuel
        have he' : EnvOK C N z' (p as.length).env a := by
          rw [← hend]
          exact fun t => R_step g2 (he t)
        exact hK _ _ z' g1 g2 g3 (by rw [g4, ← hend]; rfl) he' hnt hdf g5
    by_cases hij : i = q.i + 1
    · subst hij
      obtain ⟨o', c1, c2, c3, c4, c5⟩ := hT.ext
      rw [ho] at c1; cases c1
      obtain ⟨s1, hex, hI1⟩ := hI.step hC.md hok ht hchk hcl c5 hDi hpl
      simp only [execI, exec1, op1, Option.map_some, Option.some.injEq] at hex
      subst hex
      have e1 : a.eval (.tmp q.t1) = .tuple #[v1, goInt st] := h1
      refine hwp c3 (wpIn_val hF (fun c hc => by rw [c2] at hc; cases hc) (w1 := wB) (v := goInt st) ?_ ?_)
      · unfold execOp
        rw [c2]
        simp [e1, Instr.extract, Result.andThen]
      · have hd1 : (some q.t2 : Option Nat) ≠ some q.t1 := fun e => hT.ne (Option.some.inj e).symm
        obtain ⟨n1, n2⟩ := hT.nam _ _ m8
        have hdx : (some q.t2 : Option Nat) ≠ some q.tx := fun e => n2 (by simp [AI.names, AOp.srcs, Src.tmps]; exact .inl (Option.some.inj e))
        have hdk : (some q.t2 : Option Nat) ≠ some q.tk := fun e => n2 (by simp [AI.names, AOp.srcs, Src.tmps]; exact .inr (.inl (Option.some.inj e)))
        rw [c4]
        refine ih _ _ _ hcnt2 (by simpa using hs) hcl2 (hI2 hI1) ?_ ?_ (by rw [put_size]; exact hnt) (by rw [put_defers]; exact hdf) ?_ ?_ ?_ ?_ ?_ ?_
        · rw [hset]; exact .inl hli
        · rw [hset]; exact fun h => h.elim hlk fun e => by have := hT.ik; omega
        · rw [put_mem]; exact hm
        · exact env_put he (Tr.refl z) (R_undef _) (fun t e => by cases e; rw [hnt]; exact hT.l2) rfl
        · rw [put_getD_ne' hdx]; exact hx
        · rw [put_getD_ne' hdk]; exact hk
        · rw [put_getD_ne' hd1]; exact h1
        · intro _; exact put_getD_self' (by rw [hnt]; exact hT.l2)
    -- what comes between
    have hii : i ≠ q.i := fun e => hDi (by rw [e]; exact hli)
    obtain ⟨ai, c1, c2, c3⟩ := hT.oth i o ho hii hij hik
    obtain ⟨d1, d2⟩ := c3.resolve_left fun ⟨_, hb⟩ => hDi (anc_closed hok.lt hcl q.i _ (List.getElem?_eq_getElem (anc_none hb)) (hcl _ _ (List.getElem?_eq_getElem (anc_none hb)) hli) _ hb)
    obtain ⟨s1, hex, hI1⟩ := hI.step hC.md hok ht hchk hcl c1 hDi hpl
    unfold isMid at d1
    simp only [Bool.and_eq_true, bne_iff_ne] at d1
    obtain ⟨⟨⟨⟨y1, y2⟩, y3⟩, y4⟩, y5⟩ := d1
    have y1 : o.guard = none := by simpa using y1
    obtain ⟨p1, p2, p3, p4⟩ := trOper_parts c2
    have hgd : ai.gd = none := by
      rcases p4 with p4 | ⟨_, _, _, _, p4, _⟩
      · exact p4.2
      · rw [y1] at p4; cases p4
    obtain ⟨n1, n2⟩ := hT.nam _ _ c1
    have hdd : ∀ {t : Nat} {n : Nat} {b : AI}, as[n]? = some b → b.dst = some t → n ≠ i → o.dst ≠ some t := fun hb hbt hne => by
      rw [← p1]; exact dst_ne hok hb c1 hne hbt
    obtain ⟨_, _, _, _, e5, e6⟩ := hT.ent
    obtain ⟨_, _, _, _, e7, e8⟩ := hT.ext
    have q1 : o.dst ≠ some q.t1 := hdd e6 rfl (fun e => hii e.symm)
    have q2 : o.dst ≠ some q.t2 := hdd e8 rfl (fun e => hij e.symm)
    -- what it gives
    have next : ∀ (v : AV) (v' : Value), s1 = s.put o.dst v → R C.P N z v v' → wpAnyIn F kk C.P .any ops Q fuel (listed.setIfInBounds i true) (a.put o.dst v') wB := fun v v' hs1 hv => by
      subst hs1
      refine ih _ _ _ hcnt2 (by simpa using hs) hcl2 (hI2 hI1) ?_ ?_ (by rw [put_size]; exact hnt) (by rw [put_defers]; exact hdf) ?_ ?_ ?_ ?_ ?_ ?_
      · rw [hset]; exact .inl hli
      · rw [hset]; exact fun h => h.elim hlk fun e => hik e.symm
      · rw [put_mem]; exact hm
      · exact env_put he (Tr.refl z) hv (fun t e => by rw [hnt]; exact p2 t e) rfl
      · rw [put_getD_ne' y3]; exact hx
      · rw [put_getD_ne' y4]; exact hk
      · rw [put_getD_ne' q1]; exact h1
      · intro h
        rw [put_getD_ne' q2]
        rw [hset] at h
        exact h2 (h.resolve_right fun e => hij e.symm)
    have hcall : exec1 C.ft R' s ai.op = (op1 s ai.op).map (fun p => (p.1, s.setMem p.2)) := by
      cases hao : ai.op <;> rw [hao] at d2 <;> first | rfl | cases d2
    simp only [execI, hgd, hcall, Option.map_map, Option.map_eq_some_iff] at hex
    obtain ⟨⟨v, mm⟩, hop, hs1⟩ := hex
    simp only [Function.comp] at hs1
    split at y5
    · -- a lookup
      rename_i T x k hopq
      simp only [Bool.and_eq_true, beq_iff_eq] at y5
      obtain ⟨⟨rfl, rfl⟩, rfl⟩ := y5
      rw [hopq] at p3
      simp only [trOp, trX, bind, pure, Option.map_eq_some_iff, Option.bind_eq_some_iff, Option.some.injEq] at p3
      obtain ⟨a0, ⟨⟨ek2, e2⟩, r1, z2, r2, _, rfl, _, rfl, rfl⟩, r3⟩ := p3
      rw [m5] at r1; cases r1
      rw [m6] at r2; cases r2
      have r3 : ai.op = .mget ek (.int k0 n0) false (.t q.tx) (.t q.tk) := r3.symm
      rw [r3] at hop
      simp only [op1, Option.map_eq_some_iff, Prod.mk.injEq] at hop
      obtain ⟨v2, hop, rfl, rfl⟩ := hop
      have hxR := he q.tx
      have hkR := he q.tk
      rw [hx] at hxR
      rw [hk] at hkR
      rw [← hm] at hop
      obtain ⟨v', g1, g2⟩ := mget_sound (w := w0) hG hh m5 m6 hxR hkR hop
      rw [look0] at g1; cases g1
      have e1 : a.eval (.tmp q.tx) = xv := hx
      have e2 : a.eval (.tmp q.tk) = kv := hk
      refine hwp y1 (wpIn_val hF (fun c hc => by rw [hopq] at hc; cases hc) (w1 := wB) (v := u) ?_ (next v2 u ?_ g2))
      · unfold execOp
        rw [hopq]
        simp [e1, e2, look1, Result.andThen]
      · rw [← hs1, p1]; rfl
    · -- an operation on two values
      rename_i bo T x y yt hopq
      rw [hopq] at p3
      obtain ⟨a0, p3, p5⟩ := Option.map_eq_some_iff.1 p3
      rw [← p5] at d2
      obtain ⟨sx, sy, r1, r2, r3⟩ := bin_of p3 d2
      rw [p5] at r3
      rw [r3] at hop
      simp only [op1, Option.map_eq_some_iff, Prod.mk.injEq] at hop
      obtain ⟨v2, hop, rfl, rfl⟩ := hop
      obtain ⟨v', g1, g2, g3⟩ := bin_sound (w := wB) (t := T) (trX_sound hG he r1) (trX_sound hG he r2) hop
      refine hwp y1 (wpIn_val hF (fun c hc => by rw [hopq] at hc; cases hc) (w1 := wB) (v := v') ?_ (next v2 v' ?_ g2))
      · unfold execOp
        rw [hopq]
        simp [g1, g3, Result.andThen]
      · rw [← hs1, p1]; rfl
    · cases y5
end
end Go.Ab
end

section
/-
  An entry of a map that is changed in place: the whole region.
-/
namespace Go.Ab
open Go.MapKept
section
variable {C : Cx} {N : Nat → Nat → Prop} {z : Z} {w : World}
theorem region_triA (hC : C.OK) {R' : Run} (hR : RunF C R') (hY : RunY C R') {ow : Ow} {nt : Nat} {ops : Array Oper} {q : Tri} {as : List AI} (hT : TriF C ow nt ops q as) {chks : List (Nat × Nat)} (hok : OkD C.md chks (ops.toList.map preds) as) {p : Nat → St} (ht : Trace C.ft R' as p)
    (hchk : chkAll chks (p as.length).env = true) {F : Fence} {kk : Nat} (hF : WideF F) {Q : Exit → Act → World → Prop} :
    ∀ (fuel : Nat) (listed : Array Bool) (z : Z) (w : World) (s : St) (a : Act), (List.range ops.size).countP (fun i => !listed.getD i true) = fuel → listed.size = ops.size →
      (∀ (i : Nat) l, (ops.toList.map preds)[i]? = some l → listed.getD i false = true → ∀ q ∈ l, listed.getD q false = true) → InvD C.md as p (fun i => listed.getD i false = true) s →
      ¬listed.getD q.i false = true → a.tmps.size = nt → Good C N z → z.h = w.heap → z.m = s.mem → EnvOK C N z s.env a →
      (∀ a' w', Step C N z a w (p as.length) a' w' → Q .normal a' w') → wpAnyIn F kk C.P .any ops Q fuel listed a w := by
  have hpr : ∀ {i : Nat} {l : List Nat} {o : Oper}, ops[i]? = some o → (ops.toList.map preds)[i]? = some l → l = preds o := fun ho hl => by
    rw [List.getElem?_map, Array.getElem?_toList, ho] at hl; cases hl; rfl
  have hiq : q.i < ops.size := by have := hT.ik; have := hT.kl; omega
  intro fuel
  induction fuel with
  | zero =>
    intro listed z w s a hcnt hs hcl hI hli hnt hG hh hm he hK
    exfalso
    have := List.countP_eq_zero.1 hcnt q.i (List.mem_range.2 hiq)
    rw [getD_lt (by rw [hs]; exact hiq)] at this
    cases h9 : listed.getD q.i false with
    | true => exact hli h9
    | false => rw [h9] at this; exact this rfl
  | succ fuel ih =>
    intro listed z w s a hcnt hs hcl hI hli hnt hG hh hm he hK
    refine ⟨fun hnil => ?_, fun i hi => ?_⟩
    · exfalso
      have hall : ∀ n, n < ops.size → listed.getD n false = true := by
        intro n
        induction n using Nat.strongRecOn with
        | _ n ihn =>
          intro hn
          refine Classical.byContradiction fun hno => ?_
          have : n ∈ Region.ready .any ops listed := by
            refine ready_iff.2 ⟨hn, by rw [getD_lt (by omega)]; simpa using hno, _, Array.getElem?_eq_getElem hn, fun r hr => ?_⟩
            have hlt := hok.lt n (preds ops[n]) (by rw [List.getElem?_map, Array.getElem?_toList, Array.getElem?_eq_getElem hn]; rfl) r hr
            exact ihn r hlt (by omega)
          rw [hnil] at this; cases this
      exact hli (hall q.i hiq)
    obtain ⟨hin, hnl, o, ho, hp⟩ := ready_iff.1 hi
    have hDi : ¬listed.getD i false = true := by rw [← getD_lt (by omega), hnl]; simp
    have hpl : ∀ l, (ops.toList.map preds)[i]? = some l → ∀ r ∈ l, listed.getD r false = true := fun l hl r hr => hp r (by rw [hpr ho hl] at hr; exact hr)
    have hcnt2 := count_set hs hin hnl hcnt
    have hset := set_iff (listed := listed) (i := i) (by omega)
    have hcl2 : ∀ (j : Nat) l, (ops.toList.map preds)[j]? = some l → (listed.setIfInBounds i true).getD j false = true → ∀ r ∈ l, (listed.setIfInBounds i true).getD r false = true := fun j l hl hj r hr => by
      rw [hset] at hj ⊢
      rcases hj with hj | rfl
      · exact .inl (hcl j l hl hj r hr)
      · exact .inl (hpl l hl r hr)
    have hI2 : ∀ {s1 : St}, InvD C.md as p (fun j => listed.getD j false = true ∨ j = i) s1 → InvD C.md as p (fun j => (listed.setIfInBounds i true).getD j false = true) s1 := fun h => by
      have : (fun j => (listed.setIfInBounds i true).getD j false = true) = fun j => listed.getD j false = true ∨ j = i := funext fun j => propext (hset j)
      rw [this]; exact h
    -- what is known to be done when an operation is ready
    have done : ∀ {k n : Nat}, k = i → ((ancs (ops.toList.map preds) []).getD k 0).testBit n = true → listed.getD n false = true := fun hk hb => by
      subst hk
      exact anc_closed hok.lt hcl _ _ (List.getElem?_eq_getElem (anc_none hb)) (hpl _ (List.getElem?_eq_getElem (anc_none hb))) _ hb
    by_cases hii : i = q.i
    · subst hii
      obtain ⟨o', c1, c2, c3, c4, c5⟩ := hT.ent
      rw [ho] at c1; cases c1
      obtain ⟨om, ek, e, k0, n0, sv, m1, m2, m3, m4, m5, m6, m7, m8⟩ := hT.put
      obtain ⟨s1, hex, hI1⟩ := hI.step hC.md hok ht hchk hcl c5 hDi hpl
      simp only [execI, exec1, op1, Option.map_some, Option.some.injEq] at hex
      subst hex
      have hkl : q.k < as.length := by rw [hT.len]; exact hT.kl
      have hik := hT.ik
      have hDk : ¬listed.getD q.k false = true := fun h => by
        have hb := (hT.las q.i hiq (by omega)).2
        exact hDi (anc_closed hok.lt hcl q.k _ (List.getElem?_eq_getElem (anc_none hb)) (hcl _ _ (List.getElem?_eq_getElem (anc_none hb)) h) _ hb)
      have hDj : ¬listed.getD (q.i + 1) false = true := fun h => by
        have hb := hT.jai
        exact hDi (anc_closed hok.lt hcl (q.i + 1) _ (List.getElem?_eq_getElem (anc_none hb)) (hcl _ _ (List.getElem?_eq_getElem (anc_none hb)) h) _ hb)
      -- the memory, and the two slots, are those of the write
      obtain ⟨c, hc, hmem, hcD⟩ := hI.mem
      have hmk : kind C.md (AOp.mput ek (.t q.tx) (.t q.tk) sv) = 3 := rfl
      have hck : c ≤ q.k := Nat.not_lt.1 fun h => hDk ((hcD q.k _ m8 (by simp only [hmk]; omega)).2 h)
      have hmp : (p q.k).mem = s.mem := by
        rw [hmem]
        obtain ⟨d, hd⟩ : ∃ d, q.k = c + d := ⟨q.k - c, by omega⟩
        rw [hd]
        refine tr_mem hC.md ht d (by omega) fun j b hb h1 h2 => ?_
        refine Classical.byContradiction fun hn => ?_
        have hjl : j < ops.size := by rw [← hT.len]; exact (List.getElem?_eq_some_iff.1 hb).1
        have hji : j ≠ q.i := fun e => by
          subst e; rw [c5] at hb; cases hb; exact hn (by simp [kind])
        have hjj : j ≠ q.i + 1 := fun e => by
          obtain ⟨_, _, _, _, _, e5⟩ := hT.ext
          subst e; rw [e5] at hb; cases hb; exact hn (by simp [kind])
        obtain ⟨a', g1, _, g3⟩ := hT.oth j _ (Array.getElem?_eq_getElem hjl) hji hjj (by omega)
        rw [hb] at g1; cases g1
        rcases g3 with ⟨_, hbit⟩ | ⟨_, hbin⟩
        · have := (hcD j b hb (by omega)).1 (done rfl hbit); omega
        · cases hbo : b.op <;> rw [hbo] at hbin hn <;> simp [isBin] at hbin <;> simp [kind] at hn
      have henv : ∀ t, (t = q.tx ∨ t = q.tk) → (p q.k).env t = s.env t := by
        intro t htt
        by_cases hw : ∃ (j : Nat) (b : AI), as[j]? = some b ∧ b.dst = some t
        · obtain ⟨j, b, hb, hbt⟩ := hw
          have hjl : j < ops.size := by rw [← hT.len]; exact (List.getElem?_eq_some_iff.1 hb).1
          obtain ⟨n1, n2⟩ := hT.nam _ _ m8
          have htn : t ∈ (⟨none, none, .mput ek (.t q.tx) (.t q.tk) sv⟩ : AI).names := by
            rcases htt with rfl | rfl <;> simp [AI.names, AOp.srcs, Src.tmps]
          have hjk : j ≠ q.k := fun e => by subst e; rw [m8] at hb; cases hb; cases hbt
          have hji : j ≠ q.i := fun e => by subst e; rw [c5] at hb; cases hb; cases hbt; exact n1 htn
          have hjj : j ≠ q.i + 1 := fun e => by
            obtain ⟨_, _, _, _, _, e5⟩ := hT.ext
            subst e; rw [e5] at hb; cases hb; cases hbt; exact n2 htn
          obtain ⟨a', g1, g2, g3⟩ := hT.oth j _ (Array.getElem?_eq_getElem hjl) hji hjj hjk
          rw [hb] at g1; cases g1
          rcases g3 with ⟨hlt, hbit⟩ | ⟨hmid, _⟩
          · rw [hI.did j b t hb (done rfl hbit) hbt, tr_envn hC.md hok ht hb hbt (by omega) (by omega)]
          · unfold isMid at hmid
            simp only [Bool.and_eq_true, bne_iff_ne] at hmid
            obtain ⟨⟨⟨_, h3⟩, h4⟩, _⟩ := hmid
            rw [← (trOper_parts g2).1, hbt] at h3 h4
            rcases htt with rfl | rfl
            · exact absurd rfl h3
            · exact absurd rfl h4
        · have hw' : ∀ (j : Nat) b, as[j]? = some b → b.dst ≠ some t := fun j b hb hd => hw ⟨j, b, hb, hd⟩
          rw [hI.not t fun j b hb _ => hw' j b hb, tr_env0 hC.md ht q.k (by omega) fun j b hb _ => hw' j b hb]
      have hput := ht q.k _ m8
      simp only [execI, exec1, op1, Option.map_map, Option.map_eq_some_iff] at hput
      obtain ⟨m', hput, _⟩ := hput
      rw [hmp, ← hm] at hput
      have e1 : (p q.k).ev (.t q.tx) = s.env q.tx := henv _ (.inl rfl)
      have e2 : (p q.k).ev (.t q.tk) = s.env q.tk := henv _ (.inr rfl)
      rw [e1, e2] at hput
      obtain ⟨w1, v1, st, fin, f1, f2, ⟨u, f3, f4⟩, f5⟩ := entry_facts hG hh m5 m6 (he q.tx) (he q.tk) hput
      unfold wpOpIn
      rw [ho]
      have hw : Region.wanted o (yielded ops a.tmps) = true := by simp [Region.wanted, c3]
      simp only [hw, if_true]
      refine wpIn_val hF (fun c hc => by rw [c2] at hc; cases hc) (w1 := w1) (v := .tuple #[v1, goInt st]) ?_ ?_
      · unfold execOp
        rw [c2]
        have g1 : a.eval (.tmp q.tx) = a.tmps.getD q.tx undef := rfl
        have g2 : a.eval (.tmp q.tk) = a.tmps.getD q.tk undef := rfl
        simp only [g1, g2]
        generalize a.tmps.getD q.tx undef = xv at f1 ⊢
        generalize a.tmps.getD q.tk undef = kv at f1 ⊢
        simp [f1, Result.andThen]
      · obtain ⟨n1, n2⟩ := hT.nam _ _ m8
        have hdx : (some q.t1 : Option Nat) ≠ some q.tx := fun e => n1 (by simp [AI.names, AOp.srcs, Src.tmps]; exact .inl (Option.some.inj e))
        have hdk : (some q.t1 : Option Nat) ≠ some q.tk := fun e => n1 (by simp [AI.names, AOp.srcs, Src.tmps]; exact .inr (.inl (Option.some.inj e)))
        rw [c4]
        refine region_triB (xv := a.tmps.getD q.tx undef) (kv := a.tmps.getD q.tk undef) (v1 := v1) hC hT hok ht hchk hF hG hh f2 f3 f4 f5 (df := a.defers) ?_ fuel _ _ _ hcnt2 (by simpa using hs) hcl2 (hI2 hI1) ?_ ?_ (by rw [put_size]; exact hnt) (put_defers _ _ _) ?_ ?_ ?_ ?_ ?_ ?_
        · intro a' w' z' g1 g2 g3 g4 g5 g6 g7 g8
          exact hK a' w' ⟨z', g1, g2, g3, g4, g5, by rw [g6, hnt], g7, g8⟩
        · rw [hset]; exact .inr rfl
        · rw [hset]; exact fun h => h.elim hDk fun e => by omega
        · rw [put_mem]; exact hm
        · exact env_put he (Tr.refl z) (R_undef _) (fun t e => by cases e; rw [hnt]; exact hT.l1) rfl
        · exact put_getD_ne' hdx
        · exact put_getD_ne' hdk
        · exact put_getD_self' (by rw [hnt]; exact hT.l1)
        · intro h
          rw [hset] at h
          exact absurd (h.resolve_right (by omega)) hDj
    by_cases hij : i = q.i + 1
    · exact absurd (done hij.symm hT.jai) hli
    by_cases hik : i = q.k
    · exact absurd (done hik.symm (hT.las q.i hiq (by have := hT.ik; omega)).2) hli
    obtain ⟨ai, hai, h5, _⟩ := hT.oth i o ho hii hij hik
    obtain ⟨s1, h6, h7⟩ := hI.step hC.md hok ht hchk hcl hai hDi hpl
    unfold wpOpIn
    rw [ho]
    refine operI_sound hC hR hY hG hh hm he (by rw [hnt]; exact h5) h6 (fun a' w' hst => ?_) hF
    obtain ⟨z1, q1, q2, q3, q4, q5, q6, q7, q8⟩ := hst
    refine ih _ z1 w' s1 a' hcnt2 (by simpa using hs) hcl2 (hI2 h7) ?_ (q6.trans hnt) q1 q3 q4 q5 fun a2 w2 h8 => hK _ _ (h8.trans q2 q6 q7 q8)
    rw [hset]; exact fun h => h.elim hli fun e => hii e.symm
theorem entOf_eq {o : Oper} {T tx tk t1 : Nat} (h : entOf o = some (T, tx, tk, t1)) : o.op = .mapEntry T (.tmp tx) (.tmp tk) ∧ o.guard = none ∧ o.dst = some t1 := by
  unfold entOf at h
  split at h
  · rename_i e1 e2 e3; cases h; exact ⟨e1, e2, e3⟩
  · cases h
theorem extOf_eq {o : Oper} {t1 t2 : Nat} (h : extOf o t1 = some t2) : o.op = .extract (.tmp t1) 1 ∧ o.guard = none ∧ o.dst = some t2 := by
  unfold extOf at h
  split at h
  · rename_i e1 e2 e3
    split at h
    · rename_i e4; cases h; subst e4; exact ⟨e1, e2, e3⟩
    · cases h
  · cases h
theorem putOf_eq {o : Oper} {T tx t2 : Nat} {v : Operand} (h : putOf o T tx t2 = some v) : o.op = .entryStore T (.tmp tx) (.tmp t2) v ∧ o.guard = none ∧ o.dst = none := by
  unfold putOf at h
  split at h
  · rename_i e1 e2 e3
    split at h
    · rename_i e4; cases h; obtain ⟨rfl, rfl, rfl⟩ := e4; exact ⟨e1, e2, e3⟩
    · cases h
  · cases h
theorem tri_of {ow : Ow} {nt : Nat} {ops : Array Oper} {q : Tri} {as : List AI} (hq : triOf ops = some q) (has : ops.toList.zipIdx.mapM (fun p => trTriOp C.P C.G ow nt ops q p.2 p.1) = some as) (hok : triOK nt ops q as = true) : TriF C ow nt ops q as := by
  simp only [triOf, bind, pure, Option.bind_eq_some_iff, Option.some.injEq] at hq
  obtain ⟨i, _, ⟨T, tx, tk, t1⟩, ⟨oi, hoi, hq2⟩, t2, ⟨oj, hoj, hq3⟩, v, ⟨ok', hok', hq4⟩, rfl⟩ := hq
  obtain ⟨a1, a2, a3⟩ := entOf_eq hq2
  obtain ⟨b1, b2, b3⟩ := extOf_eq hq3
  obtain ⟨c1, c2, c3⟩ := putOf_eq hq4
  simp only [triOK, Bool.and_eq_true, decide_eq_true_eq, bne_iff_ne, List.all_eq_true, Bool.or_eq_true, beq_iff_eq, Bool.not_eq_true'] at hok
  obtain ⟨⟨⟨⟨⟨⟨⟨k1, k2⟩, k3⟩, k4⟩, k5⟩, h2⟩, h3⟩, h4⟩ := hok
  obtain ⟨ha1, ha2⟩ := mapM_RL' (S := fun a p => trTriOp C.P C.G ow nt ops _ p.2 p.1 = some a) (fun _ _ h => h) has
  have hlen : as.length = ops.size := by rw [ha1]; simp
  have hat : ∀ (n : Nat) o, ops[n]? = some o → ∃ a, as[n]? = some a ∧ trTriOp C.P C.G ow nt ops ⟨i, ops.size - 1, t1, t2, tx, tk, T, v⟩ n o = some a := by
    intro n o ho
    have hnl := (Array.getElem?_eq_some_iff.1 ho).1
    refine ⟨_, List.getElem?_eq_getElem (by omega), ?_⟩
    exact ha2 n _ (o, n) (List.getElem?_eq_getElem (by omega)) (by rw [List.getElem?_zipIdx, Array.getElem?_toList, ho]; simp)
  have hz : ∀ {n : Nat} {a : AI}, as[n]? = some a → (a, n) ∈ as.zipIdx := fun h => by rw [List.mem_zipIdx_iff_getElem?]; exact h
  refine ⟨hlen, ?_, ?_, ?_, k1, k2, k3, k4, k5, fun n o ho n1 n2 n3 => ?_, fun n a ha => ?_, fun n hn n1 => ?_, h4⟩
  · obtain ⟨a, g1, g2⟩ := hat i oi hoi
    simp only [trTriOp, if_true, Option.some.injEq] at g2
    subst g2
    exact ⟨oi, hoi, a1, a2, a3, g1⟩
  · obtain ⟨a, g1, g2⟩ := hat (i + 1) oj hoj
    simp only [trTriOp] at g2
    rw [if_neg (by omega), if_pos trivial] at g2
    cases g2
    exact ⟨oj, hoj, b1, b2, b3, g1⟩
  · obtain ⟨a, g1, g2⟩ := hat (ops.size - 1) ok' hok'
    simp only [trTriOp] at g2
    rw [if_neg (by omega), if_neg (by omega), if_pos trivial] at g2
    simp only [Option.bind_eq_some_iff] at g2
    obtain ⟨⟨ek, e⟩, r1, z0, r2, r3⟩ := g2
    split at r3
    · rename_i hz0
      obtain ⟨sv, r4, rfl⟩ := Option.map_eq_some_iff.1 r3
      cases z0 <;> first | (cases hz0; done) | skip
      exact ⟨ok', ek, e, _, _, sv, hok', c1, c2, c3, r1, r2, r4, g1⟩
    · cases r3
  · obtain ⟨a, g1, g2⟩ := hat n o ho
    simp only at n1 n2 n3
    simp only [trTriOp] at g2
    rw [if_neg n1, if_neg n2, if_neg n3] at g2
    refine ⟨a, g1, g2, ?_⟩
    rcases h2 (a, n) (hz g1) with (((h | h) | h) | h) | h
    · exact absurd h n1
    · exact absurd h n2
    · exact absurd h n3
    · exact .inl h
    · simp only [ho] at h
      exact .inr h
  · have := (h3 (a, n) (hz ha)).1
    simp only [List.contains_eq_mem, decide_eq_false_iff_not] at this
    exact this
  · have := (h3 (as[n]'(by omega), n) (hz (List.getElem?_eq_getElem (by omega)))).2
    rcases this with h | h
    · exact absurd h n1
    · exact h
theorem regionT_sound (hC : C.OK) {R' : Run} (hR : RunF C R') (hY : RunY C R') {ow : Ow} {id : Nat} {ops : Array Oper} {draw : Bool} {ac : ACode} {a : Act} (htr : trTri C.P C.G ow C.md a.tmps.size ops draw = some ac)
    {n : Nat} {s s' : St} {e : Ex} (h : exec C.ft R' n ac s = some (e, s')) (hG : Good C N z) (hh : z.h = w.heap) (hm : z.m = s.mem) (he : EnvOK C N z s.env a) {Q : Exit → Act → World → Prop} {F : Fence} {k : Nat} (hF : WideF F)
    (hK : ∀ a' w', Step C N z a w s' a' w' → Q .normal a' w') : e = .nxt ∧ (Code.region id ops draw).wpIn F k C.P Q a w := by
  have hrun : ∀ {as : List AI} {chks : List (Nat × Nat)}, (if chks.isEmpty then ACode.region as else .regionD as chks) = ac → e = .nxt ∧ execOps C.ft R' as s = some s' ∧ chkAll chks s'.env = true := by
    intro as chks htr
    by_cases hc : chks.isEmpty = true
    · rw [if_pos hc] at htr
      subst htr
      simp only [exec, Option.map_eq_some_iff] at h
      obtain ⟨s1, h2, h3⟩ := h
      cases h3
      exact ⟨rfl, h2, by rw [List.isEmpty_iff.1 hc]; rfl⟩
    · rw [if_neg hc] at htr
      subst htr
      simp only [exec, Option.bind_eq_some_iff] at h
      obtain ⟨s1, h2, h3⟩ := h
      split at h3
      · rename_i hq; cases h3; exact ⟨rfl, h2, hq⟩
      · cases h3
  have hcnt : (List.range ops.size).countP (fun i => !(Array.replicate ops.size false).getD i true) = ops.size := by
    rw [List.countP_eq_length.2 fun i hi => ?_]
    · simp
    · have := List.mem_range.1 hi
      simp [Array.getD_eq_getD_getElem?, this]
  have hfalse : ∀ i, (Array.replicate ops.size false).getD i false = false := fun i => by
    rw [Array.getD_eq_getD_getElem?, Array.getElem?_replicate]
    split <;> rfl
  simp only [trTri, Option.bind_eq_some_iff] at htr
  obtain ⟨q, hq, as, h1, htr⟩ := htr
  split at htr
  · rename_i hc
    obtain ⟨rfl, hdr, htri⟩ := hc
    simp only [Option.some.injEq] at htr
    obtain ⟨rfl, h2, hq'⟩ := hrun htr
    refine ⟨rfl, ?_⟩
    have hT := tri_of (C := C) hq h1 htri
    have hok : OkD C.md (chksOf (ops.toList.map preds) as) (ops.toList.map preds) as := OkD_of (by rw [hT.len]; simp) hdr
    obtain ⟨p, p0, pn, ht⟩ := trace_of h2
    refine wpIn_region_any hC.mixed ?_
    refine region_triA hC hR hY hT hok ht (by rw [pn]; exact hq') hF ops.size (Array.replicate ops.size false) z _ s a hcnt (by simp) (fun i l hl hi => ?_) ?_ (by rw [hfalse]; simp) rfl hG hh hm he ?_
    · rw [hfalse] at hi; cases hi
    · have : (fun i => (Array.replicate ops.size false).getD i false = true) = fun _ => False := funext fun i => by rw [hfalse]; simp
      rw [this, ← p0]
      exact InvD.init
    · rw [pn]
      intro a' w' hst
      obtain ⟨z2, g1, g2, g3, g4, g5, g6, g7, g8⟩ := hst
      exact hK _ _ ⟨z2, g1, g2, g3, g4, g5, g6, g7, ⟨g8.os, g8.tape, g8.output⟩⟩
  · cases htr
end
end Go.Ab
end

section
/-
  Regions in which memory may be made early: it is taken over when its turn comes.
-/
namespace Go.Ab
/-! ### What is made -/
structure Pend (C : Cx) (es : List AV) (sz : Nat) (cs : Array Value) : Prop where
  size : es.length * sz ≤ cs.size
  cells : ∀ (N : Nat → Nat → Prop) z (i : Nat) e, es[i]? = some e → e.cells.length = sz ∧ ∀ (j : Nat) a, e.cells[j]? = some a → ∃ u, cs[i * sz + j]? = some u ∧ u.oneCell' = true ∧ R C.P N z a u
section
variable {C : Cx} {N N' : Nat → Nat → Prop} {z z' z0 z1 z2 : Z} {w : World}
theorem good_adoptG (hG : Good C N z) {b : Nat} {es : List AV} {n : Nat} {cs : Array Value} {T : TypeId} (hsub : ∀ b' o, N' b' o → N b' o) (hb : ∀ o, N b o) (hnb : ∀ o, ¬N' b o) (hown : ¬Own z b) (hx : z.h[b]? = some (.cells cs T (0, 0)))
    (hv : Pend C es n cs) : Good C N' (z.adopt b (.live es n)) := by
  have hT := tr2_adopt (C := C) (z := z) (k := .live es n) hsub hb
  have hrn : (z.adopt b (.live es n)).ρ z.m.blks.length = b := by simp [Z.adopt]
  constructor
  · intro id es' sz h
    rcases get_snoc h with ⟨h1, hi⟩ | ⟨rfl, hk⟩
    · obtain ⟨cs, T', h2, h3, h4⟩ := hG.live id es' sz h1
      exact ⟨cs, T', by rw [hT.rho id hi]; exact h2, h3, fun i e he => ⟨(h4 i e he).1, fun j a ha => let ⟨u, h5, h6, h7⟩ := (h4 i e he).2 j a ha; ⟨u, h5, h6, R_step2 hT h7⟩⟩⟩
    · cases hk
      exact ⟨cs, T, by rw [hrn]; exact hx, hv.size, fun i e he => hv.cells _ _ i e he⟩
  · exact hG.tok
  · intro id id' k1 k2 h1 h2 d1 d2 he
    rcases get_snoc h1 with ⟨g1, hi⟩ | ⟨hi, e1⟩ <;> rcases get_snoc h2 with ⟨g2, hi'⟩ | ⟨hi', e2⟩
    · rw [hT.rho id hi, hT.rho id' hi'] at he; exact hG.rr id id' k1 k2 g1 g2 d1 d2 he
    · subst hi'; rw [hT.rho id hi, hrn] at he; exact absurd (Or.inl ⟨id, k1, g1, d1, he⟩) hown
    · subst hi; rw [hT.rho id' hi', hrn] at he; exact absurd (Or.inl ⟨id', k2, g2, d2, he.symm⟩) hown
    · omega
  · intro id k1 t y h1 d1 h2 he
    rcases get_snoc h1 with ⟨g1, hi⟩ | ⟨hi, e1⟩
    · rw [hT.rho id hi] at he; exact hG.rt id k1 t y g1 d1 h2 he
    · subst hi; rw [hrn] at he; exact hown (Or.inr ⟨t, y, h2, he.symm⟩)
  · exact hG.tt
  · intro id es' sz h o' hx'
    rcases get_snoc h with ⟨h1, hi⟩ | ⟨rfl, _⟩
    · rw [hT.rho id hi] at hx'; exact hG.nl id es' sz h1 o' (hsub _ _ hx')
    · rw [hrn] at hx'; exact hnb _ hx'
  · intro t n' T' h o ho hx'; exact hG.nt t n' T' h o ho (hsub _ _ hx')
  · intro b' o hx'; exact hG.no b' o (hsub _ _ hx')
  · intro id env ps asg body rdy pend h
    rcases get_snoc h with ⟨h1, hi⟩ | ⟨_, hk⟩
    · obtain ⟨L, h2, h3, h4, h5, h6, h6', h7, h8, h9⟩ := hG.lp id env ps asg body rdy pend h1
      exact ⟨L, by rw [hT.rho id hi]; exact h2, h3, h4, h5, h6, h6', fun t => R_step2 hT (h7 t), h8, h9⟩
    · cases hk
  · intro g e h; exact R_step2 hT (hG.glob g e h)
  · intro id kvs ek h
    rcases get_snoc h with ⟨h1, hi⟩ | ⟨_, hk⟩
    · obtain ⟨es', clock, h2, h3⟩ := hG.mp id kvs ek h1
      exact ⟨es', clock, by rw [hT.rho id hi]; exact h2, h3.step2 hT⟩
    · cases hk
/-- Memory that may be made early: what it is, in the machine and in the heap. -/
structure Early (C : Cx) (o : Oper) (ai : AI) (s0 s1 : St) (t : Nat) (es : List AV) (sz : Nat) (cs : Array Value) (T : TypeId) (av : Nat → AV) (mk : Nat → Value) : Prop where
  dst : ai.dst = some t
  odst : o.dst = some t
  gd : ai.gd = none
  ogd : o.guard = none
  res : s1 = (s0.setMem (newBlk s0.mem es sz)).put (some t) (av s0.mem.blks.length)
  pend : Pend C es sz cs
  rep : ∀ (N : Nat → Nat → Prop) (z : Z) (id : Nat), id < z.m.blks.length → csize z.h (z.ρ id) = cs.size → (∀ es' sz', z.m.blks[id]? = some (.live es' sz') → sz' = sz) → R C.P N z (av id) (mk (z.ρ id))
  run : ∀ (N : Nat → Nat → Prop) (z : Z) (w : World) (s : St) (a : Act), Good C N z → EnvOK C N z s.env a → (∀ t ∈ ai.names, s.env t = s0.env t) → (execOp a.eval o).run C.P w = .ok (.value (mk w.heap.size)) (w.alloc (.cells cs T))
  def' : ∀ c, o.op ≠ .defer c
theorem early_of {ft : FuncId → Option AFn} {R' : Run} {ow : Ow} {nt : Nat} {ops : Array Oper} {o : Oper} {ai : AI} (htr : trOper C.P C.G ow nt ops o = some ai) (hl : lzy ai = true) (hmk' : isMk o.op = true) {s0 s1 : St} (hex : execI ft R' ai s0 = some s1) :
    ∃ t es sz cs T av mk, Early C o ai s0 s1 t es sz cs T av mk := by
  simp only [lzy, Bool.and_eq_true, Option.isNone_iff_eq_none, Option.isSome_iff_exists] at hl
  obtain ⟨⟨hgd, t, hdt⟩, hop⟩ := hl
  obtain ⟨p1, p2, p3, p4⟩ := trOper_parts htr
  have hog : o.guard = none := by
    rcases p4 with p4 | ⟨_, _, _, _, _, _, _, p4⟩
    · exact p4.1
    · rw [hgd] at p4; cases p4
  obtain ⟨a0, p3, p5⟩ := Option.map_eq_some_iff.1 p3
  have hdef : ∀ c, o.op ≠ .defer c := fun c hc => by rw [hc] at p3; simp [trOp] at p3
  clear hop
  cases ho : o.op with
  | makeSlice ty l c =>
    rw [ho] at p3
    simp only [trOp] at p3
    split at p3
    case h_2 => cases p3
    rename_i T hu
    simp only [bind, pure, Option.bind_eq_some_iff] at p3
    obtain ⟨i, hi, h2⟩ := p3
    split at h2
    · cases h2
    simp only [Option.bind_eq_some_iff, Option.some.injEq] at h2
    obtain ⟨z0, hz, sl, hl1, sc, hc1, h6⟩ := h2
    subst h6
    have hai : ai.op = .make z0 T i.size i.bytes sl sc := p5.symm
    simp only [execI, hgd, hai, exec1, op1, Option.map_map, Option.map_eq_some_iff] at hex
    obtain ⟨⟨v, m'⟩, hmk, hs1⟩ := hex
    simp only [Function.comp] at hs1
    simp only [makeAt] at hmk
    split at hmk
    · rename_i ln cn e1 e2
      split at hmk
      · rename_i hcond
        obtain ⟨⟨c1, rfl⟩, c3, c4, c5⟩ := hcond
        simp only [Option.some.injEq, Prod.mk.injEq] at hmk
        obtain ⟨rfl, rfl⟩ := hmk
        obtain ⟨n, rfl⟩ := Int.eq_ofNat_of_zero_le c1
        rw [Int.toNat_natCast] at c3
        simp only [Int.toNat_natCast] at *
        obtain ⟨b1, b2, b3⟩ := limit_lt (n := n) (m := 0) (by simpa using c3)
        simp only [Nat.add_zero] at b1 b2 b3
        obtain ⟨x0, hx0, hr0⟩ : ∃ x0, i.zero = some x0 ∧ ∀ N z, R C.P N z z0 x0 := by
          simp only [zeroT, Option.bind_eq_some_iff] at hz
          obtain ⟨i2, hi2, x0, h1, h2⟩ := hz
          rw [hi] at hi2; cases hi2
          exact ⟨x0, h1, fun N z => trVal_sound h2⟩
        have hcs := fun N z => cells_sound (hr0 N z) c5
        have hxs : x0.cells.size = i.size := by have := (hcs (fun _ _ => False) ⟨#[], fun _ => 0, fun _ => 0, ⟨[], []⟩⟩).1; simp at this; omega
        have hsize := size_madeCells x0.cells (n * i.size)
        refine ⟨t, List.replicate n z0, i.size, madeCells x0.cells (n * i.size), T, fun id => .ref id 0 n, fun b => .slice (some ⟨b, 0, none⟩) n n, hdt, by rw [← p1]; exact hdt, hgd, hog, ?_, ⟨by rw [hsize]; simp, fun N z i2 e2 he => ?_⟩, fun N z id hid hcz hlv => ?_, fun N z w s a hG he hnm => ?_, hdef⟩
        · rw [← hs1, hdt]
        · have hi2 : i2 < n := by have := (List.getElem?_eq_some_iff.1 he).1; simpa using this
          have he2 : e2 = z0 := by simp [List.getElem?_replicate, hi2] at he; exact he.symm
          subst he2
          refine ⟨c4, fun j a ha => ?_⟩
          obtain ⟨u, h1, h2, h3⟩ := RL_get (hcs N z) ha
          have hj : j < i.size := by have := (List.getElem?_eq_some_iff.1 ha).1; omega
          refine ⟨u, ?_, h3, h2⟩
          have hlt := mul_slot hi2 hj
          have hmod : (i2 * i.size + j) % x0.cells.size = j := by rw [hxs, Nat.add_comm, Nat.add_mul_mod_self_right, Nat.mod_eq_of_lt hj]
          simp only [madeCells, Array.getElem?_map]
          rw [Array.getElem?_range, if_pos hlt]
          simp only [Option.map_some, hmod]
          rw [Array.getElem?_toList] at h1
          rw [getElem!_def, h1]
        · refine R_ref.2 ⟨hid, ⟨_, _, _, rfl⟩, fun es' sz' hb => ?_⟩
          obtain rfl := hlv es' sz' hb
          exact ⟨n, by simp, Nat.le_refl _, by omega, by rw [hcz, hsize]; simp⟩
        · have hls : s.ev sl = s0.ev sl := ev_congr fun t ht => hnm t (by simp [AI.names, hai, AOp.srcs, ht])
          have hcs2 : s.ev sc = s0.ev sc := ev_congr fun t ht => hnm t (by simp [AI.names, hai, AOp.srcs, ht])
          have hl := trX_sound hG he hl1
          have hc := trX_sound hG he hc1
          rw [hls] at hl
          rw [hcs2] at hc
          obtain ⟨k, hk⟩ := asIntOf_sound e1 hl
          obtain ⟨k', hk'⟩ := asIntOf_sound e2 hc
          have hrun := run_make (P := C.P) w ty T i x0 hu hi hx0 k k' (n : Int) (n : Int) (by omega) (Int.le_refl _) (by
            have : (i.bytes : Int) * (n : Int) = ((n * i.bytes : Nat) : Int) := by rw [Int.natCast_mul, Int.mul_comm]
            rw [this]; omega) (by omega)
          simp only [Int.toNat_natCast] at hrun
          unfold execOp
          rw [ho]
          simp only [hk, hk']
          simp [hrun]
      · cases hmk
    · cases hmk
  | alloc T =>
    rw [ho] at p3
    simp only [trOp, bind, pure, Option.bind_eq_some_iff, Option.some.injEq] at p3
    obtain ⟨z0, hz, sz, hszT, h6⟩ := p3
    subst h6
    have hai : ai.op = .new z0 sz := p5.symm
    simp only [execI, hgd, hai, exec1, op1, Option.map_map, Option.map_eq_some_iff] at hex
    obtain ⟨⟨v, m'⟩, hmk, hs1⟩ := hex
    simp only [Function.comp] at hs1
    split at hmk
    · rename_i hcond
      cases hmk
      obtain ⟨x0, hr0, hz1⟩ : ∃ x0, (∀ N z, R C.P N z z0 x0) ∧ ∃ i, C.P.info? T = some i ∧ i.zero = some x0 := by
        simp only [zeroT, Option.bind_eq_some_iff] at hz
        obtain ⟨i2, hi2, x0, h1, h2⟩ := hz
        exact ⟨x0, fun N z => trVal_sound h2, i2, hi2, h1⟩
      obtain ⟨i, hi, hx0⟩ := hz1
      have hcs := fun N z => cells_sound (hr0 N z) hcond.2
      refine ⟨t, [z0], sz, x0.cells, T, fun id => .ptr id 0 0, fun b => .pointer (some ⟨b, 0, none⟩), hdt, by rw [← p1]; exact hdt, hgd, hog, ?_, ⟨?_, fun N z i2 e2 he => ?_⟩, fun N z id hid hcz hlv => ?_, fun N z w s a hG he hnm => ?_, hdef⟩
      · rw [← hs1, hdt]
      · have := (hcs (fun _ _ => False) ⟨#[], fun _ => 0, fun _ => 0, ⟨[], []⟩⟩).1; simp at this ⊢; omega
      · cases i2 with
        | succ i => simp at he
        | zero =>
          simp at he; subst he
          refine ⟨hcond.1, fun j a ha => ?_⟩
          obtain ⟨u, h1, h2, h3⟩ := RL_get (hcs N z) ha
          rw [Array.getElem?_toList] at h1
          exact ⟨u, by simpa using h1, h3, h2⟩
      · exact R_ptr.2 ⟨hid, ⟨_, rfl⟩, fun es' sz' hb => by simp⟩
      · unfold execOp
        rw [ho]
        simp [Instr.alloc, zeroValue, typeInfo, hi, hx0, newVar, newRow]
    · cases hmk
  | _ => rw [ho] at hmk'; cases hmk'
end
end Go.Ab
end

section
/-
  Regions in which memory may be made early, in any order.
-/
namespace Go.Ab
section
variable {C : Cx} {N N' : Nat → Nat → Prop} {z z1 z2 : Z} {w : World}
structure OkZ (md : FuncId → Md) (ps : List (List Nat)) (as : List AI) : Prop where
  len : as.length = ps.length
  lt : ∀ (i : Nat) l, ps[i]? = some l → ∀ q ∈ l, q < i
  pair : ∀ (i j : Nat) x y, as[i]? = some x → as[j]? = some y → i ≠ j → okPairZ md (ancs ps []) i j x y = true
  wait : ∀ (j u i : Nat) y v x, as[j]? = some y → as[u]? = some v → as[i]? = some x → lzy y = true → j < u → (kind md v.op = 1 ∨ ∃ t, y.dst = some t ∧ t ∈ v.names) → i ≤ j → 2 ≤ kind md x.op → ((ancs ps []).getD u 0).testBit i = true
  args : ∀ (j u : Nat) y v t, as[j]? = some y → as[u]? = some v → lzy y = true → j < u → v.dst = some t → t ∉ y.names
theorem OkZ_of {md : FuncId → Md} {ps : List (List Nat)} {as : List AI} (hl : as.length = ps.length) (h : okLazy md ps as = true) : OkZ md ps as := by
  simp only [okLazy, Bool.and_eq_true, List.all_eq_true, decide_eq_true_eq, Bool.or_eq_true, beq_iff_eq, Bool.not_eq_true', decide_eq_false_iff_not] at h
  obtain ⟨⟨⟨h1, h2⟩, h3⟩, h4⟩ := h
  have hz : ∀ {n : Nat} {a : AI}, as[n]? = some a → (a, n) ∈ as.zipIdx := fun h => by rw [List.mem_zipIdx_iff_getElem?]; exact h
  refine ⟨hl, fun i l g q hq => h1 (l, i) (by rw [List.mem_zipIdx_iff_getElem?]; exact g) q hq, fun i j x y gx gy hne => (h2 _ (hz gx) _ (hz gy)).resolve_left hne, fun j u i y v x gy gv gx hy hju hk hij hkx => ?_, fun j u y v t gy gv hy hju ht => ?_⟩
  · have g1 := (h3 _ (hz gy)).resolve_left (by simp [hy])
    rcases g1 _ (hz gv) with (g | g) | g
    · exact absurd hju g
    · exfalso
      simp only [Bool.or_eq_false_iff, beq_eq_false_iff_ne] at g
      rcases hk with hk | ⟨t, ht, hm⟩
      · exact g.1 hk
      · rw [ht] at g; have := g.2; simp at this; exact this hm
    · rcases g _ (hz gx) with (g | g) | g
      · exact absurd hij g
      · exact absurd hkx g
      · exact g
  · have g1 := (h4 _ (hz gy)).resolve_left (by simp [hy])
    rcases g1 _ (hz gv) with g | g
    · exact absurd hju g
    · simp only [ht] at g
      intro hm
      simp at g
      exact g hm
def Nz (N : Nat → Nat → Prop) (pn : Nat → Option Nat) (b o : Nat) : Prop := N b o ∨ ∃ j, pn j = some b
open Classical in
/-- The slots of what is made, but not yet taken over, are not looked at. -/
noncomputable def maskZ (as : List AI) (pn : Nat → Option Nat) (env : Nat → AV) : Nat → AV := fun t => if ∃ j b y, pn j = some b ∧ as[j]? = some y ∧ y.dst = some t then .undef else env t
theorem maskZ_none {as : List AI} {pn : Nat → Option Nat} (h : ∀ j, pn j = none) (env : Nat → AV) : maskZ as pn env = env := funext fun t => by
  unfold maskZ
  rw [if_neg]
  rintro ⟨j, b, y, h1, _⟩
  rw [h] at h1; cases h1
theorem Nz_none {pn : Nat → Option Nat} (h : ∀ j, pn j = none) : Nz N pn = N := funext fun b => funext fun o => propext ⟨fun hx => hx.elim id fun ⟨t, ht⟩ => (by rw [h] at ht; cases ht), .inl⟩
structure InvZ (C : Cx) (N : Nat → Nat → Prop) (z0 : Z) (ops : Array Oper) (as : List AI) (p : Nat → St) (D : Nat → Prop) (pn : Nat → Option Nat) (s : St) (a : Act) (w : World) (z : Z) : Prop where
  good : Good C (Nz N pn) z
  heap : z.h = w.heap
  mem : z.m = s.mem
  env : EnvOK C (Nz N pn) z (maskZ as pn s.env) a
  tr : Tr C.P N z0 z
  own : ∀ j b, pn j = some b → z0.h.size ≤ b ∧ ¬Own z b
  inj : ∀ j j' b, pn j = some b → pn j' = some b → j = j'
  obj : ∀ j b, pn j = some b → D j ∧ ∃ o y t es sz cs T av mk, ops[j]? = some o ∧ as[j]? = some y ∧ lzy y = true ∧ Early C o y (p j) (p (j + 1)) t es sz cs T av mk ∧ z.h[b]? = some (.cells cs T (0, 0)) ∧ a.tmps.getD t undef = mk b
def Rest (md : FuncId → Md) (as : List AI) (D : Nat → Prop) (pn : Nat → Option Nat) : Prop := ∀ j b, pn j = some b → ∃ i x, i < j ∧ as[i]? = some x ∧ 2 ≤ kind md x.op ∧ ¬D i
section
variable {ft : FuncId → Option AFn} {R' : Run} {md : FuncId → Md} {ps : List (List Nat)} {as : List AI} {p : Nat → St}
theorem OkZ.dd (hok : OkZ md ps as) : DD as := fun i j x y t hi hj hne hx hy => by
  have := hok.pair i j x y hi hj hne
  simp [okPairZ, hx, hy] at this
/-- What stands in the way of a later block stands in the way of all that come behind. -/
theorem InvD.up {D : Nat → Prop} {s : St} (hI : InvD md as p D s) {i j : Nat} {x y : AI} (hx : as[i]? = some x) (hy : as[j]? = some y) (kx : 2 ≤ kind md x.op) (ky : 2 ≤ kind md y.op) (hD : ¬D i) (hij : i ≤ j) : ¬D j := fun hj => by
  obtain ⟨c, _, _, hc⟩ := hI.mem
  have := (hc j y hy ky).1 hj
  exact hD ((hc i x hx kx).2 (by omega))
end
theorem kind_lzy {md : FuncId → Md} {a : AI} (h : lzy a = true) : kind md a.op = 2 := by
  simp only [lzy, Bool.and_eq_true] at h
  have h := h.2
  split at h
  · rename_i e; rw [e]; rfl
  · rename_i e; rw [e]; rfl
  · cases h
/-- One block is taken over. -/
theorem flush1 (hC : C.OK) {R' : Run} {ops : Array Oper} {ps : List (List Nat)} {as : List AI} (hok : OkZ C.md ps as) {p : Nat → St} (ht : Trace C.ft R' as p) {z0 : Z} (hG0 : Good C N z0) {D : Nat → Prop} (hcl : ∀ (i : Nat) l, ps[i]? = some l → D i → ∀ q ∈ l, D q)
    {pn : Nat → Option Nat} {s : St} {a : Act} (hsz : ∀ (t : Nat) (y : AI) (j : Nat), as[j]? = some y → y.dst = some t → t < a.tmps.size) {z : Z} (hI : InvD C.md as p (fun i => D i ∧ pn i = none) s) (hV : InvZ C N z0 ops as p D pn s a w z) {j b : Nat} (hj : pn j = some b)
    (hmin : ∀ i, i < j → pn i = none) (hall : ∀ i x, i < j → as[i]? = some x → 2 ≤ kind C.md x.op → D i) :
    ∃ s' z', InvD C.md as p (fun i => D i ∧ (if i = j then none else pn i) = none) s' ∧ InvZ C N z0 ops as p D (fun i => if i = j then none else pn i) s' a w z' := by
  obtain ⟨hDj, o, y, t, es, sz, cs, T, av, mk, h1, h2, h3, h4, h5, h6⟩ := hV.obj j b hj
  have hky := kind_lzy (md := C.md) h3
  have hD' : ¬(D j ∧ pn j = none) := fun h => by rw [hj] at h; cases h.2
  have ord : ∀ {i : Nat}, ordered (ancs ps []) i j = true → i < j → D i := fun ho hlt => by
    unfold ordered at ho
    rw [if_pos hlt] at ho
    have hi := anc_none ho
    exact anc_closed hok.lt hcl j _ (List.getElem?_eq_getElem hi) (hcl _ _ (List.getElem?_eq_getElem hi) hDj) _ ho
  have hdn : ∀ (i : Nat) x t', as[i]? = some x → x.dst = some t' → i ≠ j → t' ∈ y.names → (i < j → D i ∧ pn i = none) ∧ (j < i → ¬(D i ∧ pn i = none)) := by
    intro i x t' hx hxt hne htn
    refine ⟨fun hlt => ?_, fun hlt => absurd htn (hok.args j i y x t' h2 hx h3 hlt hxt)⟩
    have := hok.pair j i y x h2 hx (Ne.symm hne)
    simp only [okPairZ, hxt, Bool.and_eq_true, Bool.or_eq_true, Bool.not_eq_true'] at this
    have ho := this.1.2.resolve_left (by simp [htn])
    unfold ordered at ho
    rw [if_neg (by omega)] at ho
    exact ⟨ord (by unfold ordered; rw [if_pos hlt]; exact ho) hlt, hmin i hlt⟩
  obtain ⟨s', hex, hI'⟩ := hI.stepG (ft := C.ft) (R := R') (md := C.md) hC.md ht (chks := []) rfl hok.dd h2 hD' hdn (fun _ i x hx hne hkx => ⟨fun hlt => ⟨hall i x hlt hx hkx, hmin i hlt⟩, fun hlt => hI.up h2 hx (by omega) hkx hD' (by omega)⟩) (fun hk => by omega)
  · obtain ⟨s'', hs''⟩ : ∃ x, x = s' := ⟨_, rfl⟩
    have hDiff : (fun i => D i ∧ (if i = j then none else pn i) = none) = fun i => (D i ∧ pn i = none) ∨ i = j := funext fun i => propext (by
      by_cases hij : i = j
      · subst hij; simp [hDj]
      · simp [hij])
    -- the same result as in the text's order
    have hlook := hI.look (ft := C.ft) (R := R') (md := C.md) hC.md ht hok.dd h2 hD' hdn
    · obtain ⟨v, m, he, e1, e2, e3⟩ := execI_form (ft := C.ft) (R := R') (md := C.md) hC.md (ht j y h2)
      obtain ⟨c, hc, hmem, hcD⟩ := hI.mem
      have hmj : s.mem = (p j).mem := by
        have hcj : c ≤ j := Nat.not_lt.1 fun h => hD' ((hcD j y h2 (by omega)).2 h)
        rw [hmem]
        obtain ⟨d, hd⟩ : ∃ d, j = c + d := ⟨j - c, by omega⟩
        rw [hd]
        refine (tr_mem (ft := C.ft) (R := R') (md := C.md) hC.md ht d (by rw [← hd]; have := (List.getElem?_eq_some_iff.1 h2).1; omega) fun i x hx g1 g2 => ?_).symm
        refine Classical.byContradiction fun hn => ?_
        have := (hcD i x hx (by omega)).1 ⟨hall i x (by omega) hx (by omega), hmin i (by omega)⟩
        omega
      have hex2 := (e3 s hlook).1 hmj
      rw [hex] at hex2
      cases hex2
      have hres := h4.res
      rw [he, h4.dst] at hres
      have hvm : v = av (p j).mem.blks.length ∧ m = newBlk (p j).mem es sz := by
        have g1 := congrArg (fun s : St => s.env t) hres
        have g2 := congrArg St.mem hres
        simp only [St.put, St.setMem, upd, if_true] at g1 g2
        exact ⟨g1, g2⟩
      obtain ⟨rfl, rfl⟩ := hvm
      obtain ⟨pn', hpn'⟩ : ∃ pn' : Nat → Option Nat, pn' = fun i => if i = j then none else pn i := ⟨_, rfl⟩
      have hpself : pn' j = none := by rw [hpn']; simp
      have hpne : ∀ i, i ≠ j → pn' i = pn i := fun i h => by rw [hpn']; simp [h]
      have hsub : ∀ b' o', Nz N pn' b' o' → Nz N pn b' o' := by
        rintro b' o' (h | ⟨i, h⟩)
        · exact .inl h
        · by_cases hi : i = j
          · subst hi; rw [hpself] at h; cases h
          · rw [hpne i hi] at h; exact .inr ⟨i, h⟩
      have hbN : ∀ o', Nz N pn b o' := fun o' => .inr ⟨_, hj⟩
      obtain ⟨g1, g2⟩ := hV.own j b hj
      have hnb : ∀ o', ¬Nz N pn' b o' := by
        rintro o' (h | ⟨i, h⟩)
        · have := hG0.no _ _ h; omega
        · by_cases hi : i = j
          · subst hi; rw [hpself] at h; cases h
          · rw [hpne i hi] at h; exact hi (hV.inj _ _ _ h hj)
      have hG1 := good_adoptG hV.good hsub hbN hnb g2 h5 h4.pend
      have hT2 := tr2_adopt (C := C) (z := z) (k := .live es sz) hsub hbN
      have hT1 := tr_adopt (k := .live es sz) hV.tr g1
      have hrn : (z.adopt b (.live es sz)).ρ z.m.blks.length = b := by simp [Z.adopt]
      have hlen : z.m.blks.length = (p j).mem.blks.length := by rw [hV.mem, hmj]
      refine ⟨(s.setMem (newBlk (p j).mem es sz)).put y.dst (av (p j).mem.blks.length), z.adopt b (.live es sz), ?_, ?_⟩
      · rw [hDiff]; exact hI'
      rw [← hpn']
      refine ⟨hG1, hV.heap, ?_, fun t' => ?_, hT1, fun i b' hb' => ?_, fun i i' b' hb hb' => ?_, fun i b' hb' => ?_⟩
      · rw [put_mem]
        show ({ z.m with blks := z.m.blks ++ [.live es sz] } : Mem) = newBlk (p j).mem es sz
        rw [hV.mem, hmj]; rfl
      · by_cases htt : t' = t
        · subst htt
          have hm : maskZ as pn' ((s.setMem (newBlk (p j).mem es sz)).put y.dst (av (p j).mem.blks.length)).env t' = av (p j).mem.blks.length := by
            unfold maskZ
            rw [if_neg]
            · rw [h4.dst]; simp [St.put, upd]
            · rintro ⟨i, b', x, q1, q2, q3⟩
              by_cases hi : i = j
              · subst hi; rw [hpself] at q1; cases q1
              · exact hok.dd _ _ _ _ _ q2 h2 hi q3 h4.dst
          rw [hm, h6, ← hlen]
          have := h4.rep (Nz N pn') (z.adopt b (.live es sz)) z.m.blks.length (by simp [Z.adopt]) (by rw [hrn]; show csize z.h b = cs.size; unfold csize; simp [h5]) (fun es' sz' hb => by
            simp [Z.adopt] at hb; exact hb.2.symm)
          rwa [hrn] at this
        · have g3 := hV.env t'
          have hm : maskZ as pn' ((s.setMem (newBlk (p j).mem es sz)).put y.dst (av (p j).mem.blks.length)).env t' = maskZ as pn s.env t' := by
            unfold maskZ
            have : (∃ i b' x, pn' i = some b' ∧ as[i]? = some x ∧ x.dst = some t') ↔ ∃ i b' x, pn i = some b' ∧ as[i]? = some x ∧ x.dst = some t' := by
              constructor
              · rintro ⟨i, b', x, q1, q2, q3⟩
                by_cases hi : i = j
                · subst hi; rw [hpself] at q1; cases q1
                · exact ⟨i, b', x, by rw [← hpne i hi]; exact q1, q2, q3⟩
              · rintro ⟨i, b', x, q1, q2, q3⟩
                by_cases hi : i = j
                · subst hi; rw [h2] at q2; cases q2; rw [h4.dst] at q3; exact absurd (Option.some.inj q3).symm htt
                · exact ⟨i, b', x, by rw [hpne i hi]; exact q1, q2, q3⟩
            by_cases hq : ∃ i b' x, pn i = some b' ∧ as[i]? = some x ∧ x.dst = some t'
            · rw [if_pos hq, if_pos (this.2 hq)]
            · rw [if_neg hq, if_neg (fun h => hq (this.1 h)), h4.dst]; simp [St.put, St.setMem, upd, htt]
          rw [hm]
          exact R_step2 hT2 g3
      · by_cases hi : i = j
        · subst hi; rw [hpself] at hb'; cases hb'
        · rw [hpne i hi] at hb'
          obtain ⟨q1, q2⟩ := hV.own i b' hb'
          refine ⟨q1, fun hown => ?_⟩
          rcases hown with ⟨id, k', r1, r2, r3⟩ | h
          · rcases get_snoc r1 with ⟨r1, hid⟩ | ⟨rfl, _⟩
            · refine q2 (.inl ⟨id, k', r1, r2, ?_⟩)
              simp only [Z.adopt] at r3; rw [if_neg (by omega)] at r3; exact r3
            · rw [hrn] at r3
              exact hi (hV.inj _ _ _ hb' (by rw [← r3]; exact hj))
          · exact q2 (.inr h)
      · have q1 : i ≠ j := fun e => by subst e; rw [hpself] at hb; cases hb
        have q2 : i' ≠ j := fun e => by subst e; rw [hpself] at hb'; cases hb'
        rw [hpne i q1] at hb
        rw [hpne i' q2] at hb'
        exact hV.inj _ _ _ hb hb'
      · have q1 : i ≠ j := fun e => by subst e; rw [hpself] at hb'; cases hb'
        rw [hpne i q1] at hb'
        exact hV.obj i b' hb'
/-- All blocks whose turn has come are taken over. -/
theorem flush (hC : C.OK) {R' : Run} {ops : Array Oper} {ps : List (List Nat)} {as : List AI} (hok : OkZ C.md ps as) {p : Nat → St} (ht : Trace C.ft R' as p) {z0 : Z} (hG0 : Good C N z0) {D : Nat → Prop} (hcl : ∀ (i : Nat) l, ps[i]? = some l → D i → ∀ q ∈ l, D q)
    {a : Act} (hsz : ∀ (t : Nat) (y : AI) (j : Nat), as[j]? = some y → y.dst = some t → t < a.tmps.size) :
    ∀ (n : Nat) (pn : Nat → Option Nat) (s : St) (z : Z), (List.range as.length).countP (fun i => (pn i).isSome) = n → InvD C.md as p (fun i => D i ∧ pn i = none) s → InvZ C N z0 ops as p D pn s a w z →
      ∃ pn' s' z', InvD C.md as p (fun i => D i ∧ pn' i = none) s' ∧ InvZ C N z0 ops as p D pn' s' a w z' ∧ Rest C.md as D pn' := by
  intro n
  induction n with
  | zero =>
    intro pn s z hn hI hV
    refine ⟨pn, s, z, hI, hV, fun j b hj => ?_⟩
    obtain ⟨_, o, y, t, es, sz, cs, T, av, mk, _, h2, _⟩ := hV.obj j b hj
    have := List.countP_eq_zero.1 hn j (List.mem_range.2 (List.getElem?_eq_some_iff.1 h2).1)
    simp [hj] at this
  | succ n ih =>
    intro pn s z hn hI hV
    by_cases hR : Rest C.md as D pn
    · exact ⟨pn, s, z, hI, hV, hR⟩
    -- the first that waits
    have hex : ∃ j, (pn j).isSome = true := by
      refine Classical.byContradiction fun h => hR fun j b hj => ?_
      exact absurd ⟨j, by simp [hj]⟩ h
    obtain ⟨j, hj, hmin⟩ : ∃ j, (pn j).isSome = true ∧ ∀ i, i < j → ¬(pn i).isSome = true := by
      obtain ⟨j0, h0⟩ := hex
      have : ∀ k, (∃ j, j ≤ k ∧ (pn j).isSome = true) → ∃ j, (pn j).isSome = true ∧ ∀ i, i < j → ¬(pn i).isSome = true := by
        intro k
        induction k with
        | zero => rintro ⟨j, hj, h⟩; obtain rfl : j = 0 := by omega
                  exact ⟨0, h, fun i hi => by omega⟩
        | succ k ihk =>
          rintro ⟨j, hj, h⟩
          by_cases hb : ∃ j, j ≤ k ∧ (pn j).isSome = true
          · exact ihk hb
          · exact ⟨j, h, fun i hi hp => hb ⟨i, by omega, hp⟩⟩
      exact this j0 ⟨j0, Nat.le_refl _, h0⟩
    obtain ⟨b, hjb⟩ := Option.isSome_iff_exists.1 hj
    have hmin' : ∀ i, i < j → pn i = none := fun i hi => by
      cases h : pn i with
      | none => rfl
      | some b => exact absurd (by simp [h]) (hmin i hi)
    by_cases hall : ∀ i x, i < j → as[i]? = some x → 2 ≤ kind C.md x.op → D i
    · obtain ⟨s', z', hI', hV'⟩ := flush1 hC hok ht hG0 hcl hsz hI hV hjb hmin' hall
      refine ih _ s' z' ?_ hI' hV'
      obtain ⟨_, o, y, t, es, sz, cs, T, av, mk, _, h2, _⟩ := hV.obj j b hjb
      have := countP_one (p := fun i => (pn i).isSome) (q := fun i => (if i = j then none else pn i).isSome) (i := j) hj (by simp) (fun i hi => by simp [hi]) (List.range as.length) List.nodup_range (List.mem_range.2 (List.getElem?_eq_some_iff.1 h2).1)
      omega
    · exfalso
      refine hR fun j' b' hj' => ?_
      obtain ⟨i, hno⟩ := Classical.not_forall.1 hall
      obtain ⟨x, hno⟩ := Classical.not_forall.1 hno
      simp only [Classical.not_imp] at hno
      obtain ⟨q1, q2, q3, q4⟩ := hno
      have : j ≤ j' := Nat.not_lt.1 fun h => by rw [hmin' j' h] at hj'; cases hj'
      exact ⟨i, x, by omega, q2, q3, q4⟩
end
end Go.Ab
end

section
/-
  Regions in which memory may be made early: their operations in any order.
-/
namespace Go.Ab
section
variable {C : Cx} {N N' : Nat → Nat → Prop} {z z1 z2 : Z} {w : World}
theorem kind_le (md : FuncId → Md) (o : AOp) : kind md o ≤ 3 := by
  unfold kind
  repeat' split
  all_goals omega
theorem region_lazy (hC : C.OK) {R' : Run} (hR : RunF C R') (hY : RunY C R') {ow : Ow} {nt : Nat} {ops : Array Oper} {as : List AI} (htr : ops.toList.mapM (trOper C.P C.G ow nt ops) = some as)
    (hmk : ∀ (j : Nat) o y, ops[j]? = some o → as[j]? = some y → lzy y = true → isMk o.op = true) (hok : OkZ C.md (ops.toList.map preds) as) {p : Nat → St} (ht : Trace C.ft R' as p) {F : Fence} {kk : Nat} (hF : WideF F) {Q : Exit → Act → World → Prop}
    {z0 : Z} (hG0 : Good C N z0) {a0 : Act} {w0 : World} (hsz : a0.tmps.size = nt) (hK : ∀ a' w', Step C N z0 a0 w0 (p as.length) a' w' → Q .normal a' w') :
    ∀ (fuel : Nat) (listed : Array Bool) (z : Z) (pn : Nat → Option Nat) (w : World) (s : St) (a : Act), (List.range ops.size).countP (fun i => !listed.getD i true) = fuel → listed.size = ops.size →
      (∀ (i : Nat) l, (ops.toList.map preds)[i]? = some l → listed.getD i false = true → ∀ q ∈ l, listed.getD q false = true) → InvD C.md as p (fun i => listed.getD i false = true ∧ pn i = none) s →
      InvZ C N z0 ops as p (fun i => listed.getD i false = true) pn s a w z → Rest C.md as (fun i => listed.getD i false = true) pn → a.tmps.size = nt → a.defers = a0.defers → WS w0 w → wpAnyIn F kk C.P .any ops Q fuel listed a w := by
  have hlen : as.length = ops.size := by rw [hok.len]; simp
  have hpr : ∀ {i : Nat} {l : List Nat} {o : Oper}, ops[i]? = some o → (ops.toList.map preds)[i]? = some l → l = preds o := fun ho hl => by
    rw [List.getElem?_map, Array.getElem?_toList, ho] at hl; cases hl; rfl
  obtain ⟨hm1, hm2⟩ := mapM_RL' (S := fun ai o => trOper C.P C.G ow nt ops o = some ai) (fun _ _ h => h) htr
  have hops : ∀ {j : Nat} {y : AI}, as[j]? = some y → ∃ o, ops[j]? = some o ∧ trOper C.P C.G ow nt ops o = some y := fun hy => by
    have hj := (List.getElem?_eq_some_iff.1 hy).1
    exact ⟨_, Array.getElem?_eq_getElem (by omega), hm2 _ _ _ hy (by rw [Array.getElem?_toList]; exact Array.getElem?_eq_getElem (by omega))⟩
  have hszs : ∀ {a : Act}, a.tmps.size = nt → ∀ (t : Nat) (y : AI) (j : Nat), as[j]? = some y → y.dst = some t → t < a.tmps.size := fun ha t y j hy hd => by
    obtain ⟨o, _, h2⟩ := hops hy
    obtain ⟨g1, g2, _⟩ := trOper_parts h2
    rw [ha]; exact g2 t (by rw [← g1]; exact hd)
  have fin : ∀ {listed : Array Bool} {s : St} {z : Z} {pn : Nat → Option Nat} {w : World} {a : Act}, listed.size = ops.size → (∀ n, n < ops.size → listed.getD n false = true) → InvD C.md as p (fun i => listed.getD i false = true ∧ pn i = none) s →
      InvZ C N z0 ops as p (fun i => listed.getD i false = true) pn s a w z → Rest C.md as (fun i => listed.getD i false = true) pn → a.tmps.size = nt → a.defers = a0.defers → WS w0 w → Q .normal a w := by
    intro listed s z pn w a hs hall hI hV hRs h1 h2 h3
    have hno : ∀ j, pn j = none := fun j => by
      cases hp : pn j with
      | none => rfl
      | some b =>
        obtain ⟨i, x, q1, q2, _, q4⟩ := hRs j b hp
        exact absurd (hall i (by rw [← hlen]; exact (List.getElem?_eq_some_iff.1 q2).1)) q4
    have hend : s = p as.length := by
      -- everything is done
      obtain ⟨c, hc, hmem, hcD⟩ := hI.mem
      have hm : s.mem = (p as.length).mem := by
        obtain ⟨d, hd⟩ : ∃ d, as.length = c + d := ⟨as.length - c, by omega⟩
        rw [hmem, hd]
        refine (tr_mem hC.md ht d (by omega) fun j b hb h1 h2 => ?_).symm
        refine Classical.byContradiction fun hn => ?_
        have := (hcD j b hb (by omega)).1 ⟨hall j (by have := (List.getElem?_eq_some_iff.1 hb).1; omega), hno j⟩
        omega
      have he : s.env = (p as.length).env := by
        funext t
        by_cases hw : ∃ (i : Nat) (a : AI), as[i]? = some a ∧ a.dst = some t
        · obtain ⟨i, a, ha, hd⟩ := hw
          exact hI.did i a t ha ⟨hall i (by have := (List.getElem?_eq_some_iff.1 ha).1; omega), hno i⟩ hd
        · rw [hI.not t fun i a ha _ hd => hw ⟨i, a, ha, hd⟩, tr_env0 hC.md ht as.length (Nat.le_refl _) fun i a ha _ hd => hw ⟨i, a, ha, hd⟩]
      cases s
      cases hp : p as.length
      rw [hp] at hm he
      simp only at hm he
      rw [hm, he]
    subst hend
    have hg := hV.good
    have he := hV.env
    rw [Nz_none hno] at hg he
    rw [maskZ_none hno] at he
    exact hK _ _ ⟨z, hg, hV.tr, hV.heap, hV.mem, he, by rw [h1, hsz], h2, h3⟩
  intro fuel
  induction fuel with
  | zero =>
    intro listed z pn w s a hcnt hs hcl hI hV hRs h1 h2 h3
    have hall : ∀ n, n < ops.size → listed.getD n false = true := fun n hn => by
      have := List.countP_eq_zero.1 hcnt n (List.mem_range.2 hn)
      rw [getD_lt (by omega)] at this
      cases h9 : listed.getD n false with
      | true => rfl
      | false => rw [h9] at this; exact absurd rfl this
    exact any_end (fun i hi => by rw [getD_lt (by omega)]; exact hall i hi) (fin hs hall hI hV hRs h1 h2 h3) 0
  | succ fuel ih =>
    intro listed z pn w s a hcnt hs hcl hI hV hRs hnt hdf hws
    refine ⟨fun hnil => fin hs ?_ hI hV hRs hnt hdf hws, fun i hi => ?_⟩
    · intro n
      induction n using Nat.strongRecOn with
      | _ n ihn =>
        intro hn
        refine Classical.byContradiction fun hno => ?_
        have : n ∈ Region.ready .any ops listed := by
          refine ready_iff.2 ⟨hn, by rw [getD_lt (by omega)]; simpa using hno, _, Array.getElem?_eq_getElem hn, fun r hr => ?_⟩
          have hlt := hok.lt n (preds ops[n]) (by rw [List.getElem?_map, Array.getElem?_toList, Array.getElem?_eq_getElem hn]; rfl) r hr
          exact ihn r hlt (by omega)
        rw [hnil] at this; cases this
    obtain ⟨hin, hnl, o, ho, hpd⟩ := ready_iff.1 hi
    have hDi : ¬listed.getD i false = true := by rw [← getD_lt (by omega), hnl]; simp
    have hpl : ∀ l, (ops.toList.map preds)[i]? = some l → ∀ r ∈ l, listed.getD r false = true := fun l hl r hr => hpd r (by rw [hpr ho hl] at hr; exact hr)
    have hcnt2 := count_set hs hin hnl hcnt
    have hset := set_iff (listed := listed) (i := i) (by omega)
    have hcl2 : ∀ (j : Nat) l, (ops.toList.map preds)[j]? = some l → (listed.setIfInBounds i true).getD j false = true → ∀ r ∈ l, (listed.setIfInBounds i true).getD r false = true := fun j l hl hj r hr => by
      rw [hset] at hj ⊢
      rcases hj with hj | rfl
      · exact .inl (hcl j l hl hj r hr)
      · exact .inl (hpl l hl r hr)
    have hLeq : (fun j => (listed.setIfInBounds i true).getD j false = true) = fun j => listed.getD j false = true ∨ j = i := funext fun j => propext (hset j)
    obtain ⟨ai, hai⟩ : ∃ ai, as[i]? = some ai := ⟨_, List.getElem?_eq_getElem (by omega)⟩
    obtain ⟨o2, ho2, h5⟩ := hops hai
    rw [ho] at ho2; cases ho2
    -- what is ordered before is done; what is ordered behind is not
    have bit : ∀ {j : Nat}, ((ancs (ops.toList.map preds) []).getD i 0).testBit j = true → listed.getD j false = true := fun hb =>
      anc_closed hok.lt hcl _ _ (List.getElem?_eq_getElem (anc_none hb)) (hpl _ (List.getElem?_eq_getElem (anc_none hb))) _ hb
    have ordL : ∀ {j : Nat}, j < i → ordered (ancs (ops.toList.map preds) []) i j = true → listed.getD j false = true := fun hlt ho => by
      unfold ordered at ho
      rw [if_neg (by omega)] at ho
      exact bit ho
    have ordR : ∀ {j : Nat}, i < j → ordered (ancs (ops.toList.map preds) []) i j = true → ¬listed.getD j false = true := fun hlt ho hj => by
      unfold ordered at ho
      rw [if_pos hlt] at ho
      exact hDi (anc_closed hok.lt hcl _ _ (List.getElem?_eq_getElem (anc_none ho)) (hcl _ _ (List.getElem?_eq_getElem (anc_none ho)) hj) _ ho)
    -- what waits is not looked at
    have nowait : ∀ {j b : Nat}, pn j = some b → j < i → (kind C.md ai.op = 1 ∨ ∃ t y, as[j]? = some y ∧ y.dst = some t ∧ t ∈ ai.names) → False := fun {j b} hb hlt hk => by
      obtain ⟨i', x, q1, q2, q3, q4⟩ := hRs j b hb
      obtain ⟨_, o', y, t, es, sz, cs, T, av, mk, r1, r2, r3, _⟩ := hV.obj j b hb
      refine q4 (bit (hok.wait j i i' y ai x r2 hai q2 r3 hlt (hk.imp id fun ⟨t, y', e1, e2, e3⟩ => ?_) (by omega) q3))
      rw [r2] at e1; cases e1
      exact ⟨t, e2, e3⟩
    have hdn : ∀ (j : Nat) b t, as[j]? = some b → b.dst = some t → j ≠ i → t ∈ ai.names → (j < i → listed.getD j false = true ∧ pn j = none) ∧ (i < j → ¬(listed.getD j false = true ∧ pn j = none)) := by
      intro j b t hb hbt hne htn
      have h1 := hok.pair i j ai b hai hb (Ne.symm hne)
      simp only [okPairZ, hbt, Bool.and_eq_true, Bool.or_eq_true, Bool.not_eq_true'] at h1
      have ho := h1.1.2.resolve_left (by simp [htn])
      refine ⟨fun hlt => ⟨ordL hlt ho, ?_⟩, fun hlt h => ordR hlt ho h.1⟩
      cases hp : pn j with
      | none => rfl
      | some b' => exact (nowait hp hlt (.inr ⟨t, b, hb, hbt, htn⟩)).elim
    have hDi' : ¬(listed.getD i false = true ∧ pn i = none) := fun h => hDi h.1
    have hnoM : ∀ t ∈ ai.names, maskZ as pn s.env t = s.env t := fun t htn => by
      unfold maskZ
      rw [if_neg]
      rintro ⟨j, b, y, q1, q2, q3⟩
      have hLj := (hV.obj j b q1).1
      have hne : j ≠ i := fun e => hDi (by rw [← e]; exact hLj)
      obtain ⟨e1, e2⟩ := hdn j y t q2 q3 hne htn
      rcases Nat.lt_or_gt_of_ne hne with h | h
      · rw [(e1 h).2] at q1; cases q1
      · have h1 := hok.pair i j ai y hai q2 (Ne.symm hne)
        simp only [okPairZ, q3, Bool.and_eq_true, Bool.or_eq_true, Bool.not_eq_true'] at h1
        exact ordR h (h1.1.2.resolve_left (by simp [htn])) hLj
    have next : ∀ (z' : Z) (pn' : Nat → Option Nat) (w' : World) (s' : St) (a' : Act), InvD C.md as p (fun j => (listed.getD j false = true ∨ j = i) ∧ pn' j = none) s' → InvZ C N z0 ops as p (fun j => listed.getD j false = true ∨ j = i) pn' s' a' w' z' →
        a'.tmps.size = nt → a'.defers = a0.defers → WS w0 w' → wpAnyIn F kk C.P .any ops Q fuel (listed.setIfInBounds i true) a' w' := fun z' pn' w' s' a' hI' hV' q1 q2 q3 => by
      have hcl3 : ∀ (j : Nat) l, (ops.toList.map preds)[j]? = some l → (listed.getD j false = true ∨ j = i) → ∀ q ∈ l, (listed.getD q false = true ∨ q = i) := fun j l hl hj q hq => by
        have := hcl2 j l hl (by rw [hset]; exact hj) q hq
        rwa [hset] at this
      obtain ⟨pn2, s2, z2, e1, e2, e3⟩ := flush hC hok ht hG0 hcl3 (hszs q1) _ pn' s' z' rfl hI' hV'
      refine ih _ z2 pn2 w' s2 a' hcnt2 (by simpa using hs) hcl2 ?_ ?_ ?_ q1 q2 q3
      · have : (fun j => (listed.setIfInBounds i true).getD j false = true ∧ pn2 j = none) = fun j => (listed.getD j false = true ∨ j = i) ∧ pn2 j = none := funext fun j => propext (and_congr (hset j) Iff.rfl)
        rw [this]; exact e1
      · rw [hLeq]; exact e2
      · rw [hLeq]; exact e3
    by_cases hlz : lzy ai = true
    · -- memory is made
      obtain ⟨t, es, sz, cs, T, av, mk, hE⟩ := early_of h5 hlz (hmk i o ai ho hai hlz) (ht i ai hai)
      have hlook := hI.look hC.md ht hok.dd hai hDi' hdn
      have hpni : pn i = none := by
        cases hp : pn i with
        | none => rfl
        | some b => exact absurd (hV.obj i b hp).1 hDi
      unfold wpOpIn
      rw [ho]
      have hw : Region.wanted o (yielded ops a.tmps) = true := by simp [Region.wanted, hE.ogd]
      simp only [hw, if_true]
      refine wpIn_val hF hE.def' (hE.run (Nz N pn) z w ⟨maskZ as pn s.env, s.mem⟩ a hV.good hV.env fun t htn => ?_) ?_
      · show maskZ as pn s.env t = _
        rw [hnoM t htn]; exact hlook t htn
      have hgs : z.h.size = w.heap.size := by rw [hV.heap]
      have hpush : ∀ b, b < z.h.size → (z.h.push (.cells cs T (0, 0)))[b]? = z.h[b]? := fun b hb => get_push_lt hb
      obtain ⟨pn', hpn'⟩ : ∃ pn' : Nat → Option Nat, pn' = fun j => if j = i then some z.h.size else pn j := ⟨_, rfl⟩
      have hpself : pn' i = some z.h.size := by rw [hpn']; simp
      have hpne : ∀ j, j ≠ i → pn' j = pn j := fun j h => by rw [hpn']; simp [h]
      have hold : ∀ j b, pn j = some b → b < z.h.size := fun j b hb => by
        obtain ⟨_, o', y, t, es, sz, cs, T, av, mk, _, _, _, _, r5, _⟩ := hV.obj j b hb
        exact (Array.getElem?_eq_some_iff.1 r5).1
      have hNp : ∀ b o, Nz N pn' b o → Nz N pn b o ∨ (z.h.size ≤ b ∧ b < (z.h.push (.cells cs T (0, 0))).size) := by
        rintro b o (h | ⟨j, h⟩)
        · exact .inl (.inl h)
        · by_cases hj : j = i
          · subst hj; rw [hpself] at h; cases h
            exact .inr ⟨Nat.le_refl _, by simp⟩
          · rw [hpne j hj] at h; exact .inl (.inr ⟨j, h⟩)
      have hT2 := tr2_ext (C := C) (N' := Nz N pn') hV.good (h' := z.h.push (.cells cs T (0, 0))) (by simp) hpush fun b o h => (hNp b o h).imp id And.left
      rw [hE.odst]
      refine next { z with h := z.h.push (.cells cs T (0, 0)) } pn' _ s _ ?_ ?_ (by rw [put_size]; exact hnt) (by rw [put_defers]; exact hdf) (hws.trans ⟨rfl, rfl, rfl⟩)
      · have : (fun j => (listed.getD j false = true ∨ j = i) ∧ pn' j = none) = fun j => listed.getD j false = true ∧ pn j = none := funext fun j => propext (by
          by_cases hj : j = i
          · subst hj
            rw [hpself]
            exact ⟨fun h => (nomatch h.2), fun h => absurd h.1 hDi⟩
          · rw [hpne j hj]
            exact and_congr ⟨fun h => h.resolve_right hj, .inl⟩ Iff.rfl)
        rw [this]; exact hI
      refine ⟨good2_ext hV.good (by simp) hpush hNp, by show z.h.push _ = _; rw [hV.heap]; rfl, hV.mem, fun t' => ?_, ?_, fun j b hb => ?_, fun j j' b hb hb' => ?_, fun j b hb => ?_⟩
      · by_cases hte : t' = t
        · subst hte
          have : maskZ as pn' s.env t' = .undef := by
            unfold maskZ
            rw [if_pos ⟨i, _, ai, hpself, hai, hE.dst⟩]
          rw [this]; exact R_undef _
        · have h1 := hV.env t'
          rw [put_getD_ne' (fun e => hte (Option.some.inj e).symm)]
          have : maskZ as pn' s.env t' = maskZ as pn s.env t' := by
            unfold maskZ
            have hiff : (∃ j b' x, pn' j = some b' ∧ as[j]? = some x ∧ x.dst = some t') ↔ ∃ j b' x, pn j = some b' ∧ as[j]? = some x ∧ x.dst = some t' := by
              constructor
              · rintro ⟨j, b', x, q1, q2, q3⟩
                by_cases hj : j = i
                · subst hj; rw [hai] at q2; cases q2; rw [hE.dst] at q3; exact absurd (Option.some.inj q3).symm hte
                · exact ⟨j, b', x, by rw [← hpne j hj]; exact q1, q2, q3⟩
              · rintro ⟨j, b', x, q1, q2, q3⟩
                by_cases hj : j = i
                · subst hj; rw [hpni] at q1; cases q1
                · exact ⟨j, b', x, by rw [hpne j hj]; exact q1, q2, q3⟩
            by_cases hq : ∃ j b' x, pn j = some b' ∧ as[j]? = some x ∧ x.dst = some t'
            · rw [if_pos hq, if_pos (hiff.2 hq)]
            · rw [if_neg hq, if_neg (fun h => hq (hiff.1 h))]
          rw [this]
          exact R_step2 hT2 h1
      · exact tr_more hV.tr (tr_ext (N := Nz N pn) (by simp) hpush hV.good) (fun b o h => by
          rcases h with h | ⟨j, h⟩
          · exact .inl h
          · exact .inr (hV.own j b h).1) fun b o h => .inl h
      · by_cases hj : j = i
        · subst hj; rw [hpself] at hb; cases hb
          refine ⟨hV.tr.size, fun hown => ?_⟩
          have : Own z z.h.size := hown
          have := hV.good.own_lt this
          omega
        · rw [hpne j hj] at hb; exact hV.own j b hb
      · by_cases h1 : j = i <;> by_cases h2 : j' = i
        · rw [h1, h2]
        · subst h1; rw [hpself] at hb; cases hb; rw [hpne _ h2] at hb'; have := hold _ _ hb'; omega
        · subst h2; rw [hpself] at hb'; cases hb'; rw [hpne _ h1] at hb; have := hold _ _ hb; omega
        · rw [hpne _ h1] at hb; rw [hpne _ h2] at hb'; exact hV.inj _ _ _ hb hb'
      · by_cases hj : j = i
        · subst hj; rw [hpself] at hb; cases hb
          refine ⟨.inr rfl, o, ai, t, es, sz, cs, T, av, mk, ho, hai, hlz, hE, by simp, ?_⟩
          rw [put_getD_self' (hszs hnt t ai _ hai hE.dst), hgs]
        · rw [hpne j hj] at hb
          obtain ⟨r0, o', y, t', es', sz', cs', T', av', mk', r1, r2, r3, r4, r5, r6⟩ := hV.obj j b hb
          refine ⟨.inl r0, o', y, t', es', sz', cs', T', av', mk', r1, r2, r3, r4, by rw [hpush b (hold j b hb)]; exact r5, ?_⟩
          rw [put_getD_ne' (fun e => ?_)]
          · exact r6
          · exact hok.dd _ _ _ _ _ hai r2 (Ne.symm hj) hE.dst (by rw [r4.dst]; exact e.symm)
    · -- any other operation
      have hk2 : 2 ≤ kind C.md ai.op → ∀ (j : Nat) b, as[j]? = some b → j ≠ i → 2 ≤ kind C.md b.op → (j < i → listed.getD j false = true ∧ pn j = none) ∧ (i < j → ¬(listed.getD j false = true ∧ pn j = none)) := by
        intro hk j b hb hne hkb
        refine ⟨fun hlt => ?_, fun hlt => hI.up hai hb hk hkb hDi' (by omega)⟩
        have ordJ : ∀ {j : Nat} {x : AI}, as[j]? = some x → j < i → 2 ≤ kind C.md x.op → listed.getD j false = true := fun hx hlt hkx => by
          have h1 := hok.pair i _ ai _ hai hx (by omega)
          simp only [okPairZ, Bool.and_eq_true] at h1
          have h1 := h1.2
          split at h1 <;> first | omega | skip
          simp only [Bool.or_eq_true] at h1
          refine ordL hlt (h1.resolve_right fun h => ?_)
          rw [if_neg (by omega)] at h
          exact hlz h
        refine ⟨ordJ hb hlt hkb, ?_⟩
        cases hp : pn j with
        | none => rfl
        | some b' =>
          obtain ⟨i', x, q1, q2, q3, q4⟩ := hRs j b' hp
          exact absurd (ordJ q2 (by omega) q3) q4
      have hk1 : kind C.md ai.op = 1 → ∀ (j : Nat) b, as[j]? = some b → 2 ≤ kind C.md b.op → (j < i → listed.getD j false = true ∧ pn j = none) ∧ (i ≤ j → (listed.getD j false = true ∧ pn j = none) → (kind C.md b.op = 2 ∨ opens as [] i j ai b = true) ∧ calls ai.op = false) := by
        intro hk j b hb hkb
        have hji : j ≠ i := fun e => by subst e; rw [hai] at hb; cases hb; omega
        have h1 := hok.pair i j ai b hai hb (Ne.symm hji)
        have wt : j < i → pn j = none := fun hlt => by
          cases hp : pn j with
          | none => rfl
          | some b' => exact (nowait hp hlt (.inl hk)).elim
        rcases (show kind C.md b.op = 2 ∨ kind C.md b.op = 3 by have := kind_le C.md b.op; omega) with e | e
        · simp only [okPairZ, Bool.and_eq_true, hk, e, Bool.or_eq_true, decide_eq_true_eq, Bool.not_eq_true'] at h1
          refine ⟨fun hlt => ⟨ordL hlt (h1.2.resolve_right fun h => by omega), wt hlt⟩, fun hle hDj => ⟨.inl e, (h1.2.resolve_left fun ho => ordR (by omega) ho hDj.1).2⟩⟩
        · simp only [okPairZ, Bool.and_eq_true, hk, e] at h1
          exact ⟨fun hlt => ⟨ordL hlt h1.2, wt hlt⟩, fun hle hDj => absurd hDj.1 (ordR (by omega) h1.2)⟩
      obtain ⟨s1, hex, hI1⟩ := hI.stepG hC.md ht (chks := []) rfl hok.dd hai hDi' hdn hk2 hk1
      have hpni : pn i = none := by
        cases hp : pn i with
        | none => rfl
        | some b => exact absurd (hV.obj i b hp).1 hDi
      have hdo : ai.dst = o.dst := (trOper_parts h5).1
      obtain ⟨v, m, hs1, _, _, hf⟩ := execI_form hC.md hex
      obtain ⟨sM, hsM⟩ : ∃ sM : St, sM = ⟨maskZ as pn s.env, s.mem⟩ := ⟨_, rfl⟩
      have hexM := (hf sM fun t htn => by rw [hsM]; exact hnoM t htn).1 (by rw [hsM])
      have hop := operI_sound hC hR hY hV.good hV.heap (show z.m = sM.mem by rw [hsM]; exact hV.mem) (show EnvOK C (Nz N pn) z sM.env a by rw [hsM]; exact hV.env) (by rw [hnt]; exact h5) hexM
        (K := fun a' w' => Step C (Nz N pn) z a w ((sM.setMem m).put ai.dst v) a' w') (Q := Q) (fun a' w' h => h) hF (k := kk)
      have hop2 : wpOpIn F kk C.P ops Q i (fun a' w' => Step C (Nz N pn) z a w ((sM.setMem m).put ai.dst v) a' w') a w := by
        unfold wpOpIn; rw [ho]; exact hop
      refine wpOpIn_mono (fun a' w' hh => ?_) (wpOpIn_put ho hop2)
      obtain ⟨⟨z', d1, d2, d3, d4, d5, d6, d7, d8⟩, vv2, hput⟩ := hh
      have hdst : ∀ j b y t, pn j = some b → as[j]? = some y → y.dst = some t → ai.dst ≠ some t := fun j b y t hb hy hyt => by
        have hne : j ≠ i := fun e => by rw [e, hpni] at hb; cases hb
        exact hok.dd _ _ _ _ _ hy hai hne hyt
      refine next z' pn w' s1 a' ?_ ?_ (by rw [d6]; exact hnt) (by rw [d7]; exact hdf) (hws.trans d8)
      · have : (fun j => (listed.getD j false = true ∨ j = i) ∧ pn j = none) = fun j => (listed.getD j false = true ∧ pn j = none) ∨ j = i := funext fun j => propext (by
          by_cases hj : j = i
          · subst hj; simp [hpni]
          · simp [hj])
        rw [this]; exact hI1
      refine ⟨d1, d3, d4.trans ?_, ?_, tr_more hV.tr d2 (fun b' o' h => ?_) (fun b' o' h => .inl h), fun j b' hb' => ?_, hV.inj, fun j b' hb' => ?_⟩
      · rw [hs1, put_mem, put_mem]; rfl
      · have : maskZ as pn s1.env = ((sM.setMem m).put ai.dst v).env := by
          rw [hs1, hsM]
          funext t
          cases hd : ai.dst with
          | none => rfl
          | some d =>
            by_cases hte : t = d
            · subst hte
              have hno : ¬∃ j b' x, pn j = some b' ∧ as[j]? = some x ∧ x.dst = some t := fun ⟨j, b', x, q1, q2, q3⟩ => hdst j b' x t q1 q2 q3 hd
              unfold maskZ
              rw [if_neg hno]
              simp [St.put, upd]
            · simp [maskZ, St.put, St.setMem, upd, hte]
        rw [this]; exact d5
      · rcases h with h | ⟨j, h⟩
        · exact .inl h
        · exact .inr (hV.own j b' h).1
      · obtain ⟨_, o', y, t, es, sz, cs, T, av, mk, _, _, _, _, r5, _⟩ := hV.obj j b' hb'
        obtain ⟨q1, q2⟩ := hV.own j b' hb'
        exact ⟨q1, fun h => q2 (d2.own b' (Array.getElem?_eq_some_iff.1 r5).1 h)⟩
      · obtain ⟨r0, o', y, t, es, sz, cs, T, av, mk, r1, r2, r3, r4, r5, r6⟩ := hV.obj j b' hb'
        refine ⟨.inl r0, o', y, t, es, sz, cs, T, av, mk, r1, r2, r3, r4, by rw [d2.other b' (Array.getElem?_eq_some_iff.1 r5).1 (hV.own j b' hb').2]; exact r5, ?_⟩
        rw [hput, put_getD_ne' (by rw [← hdo]; exact hdst j b' y t hb' r2 r4.dst)]; exact r6
theorem regionZ_sound (hC : C.OK) {R' : Run} (hR : RunF C R') (hY : RunY C R') {ow : Ow} {id : Nat} {ops : Array Oper} {draw : Bool} {ac : ACode} {a : Act} (htr : trLazy C.P C.G ow C.md a.tmps.size ops draw = some ac)
    {n : Nat} {s s' : St} {e : Ex} (h : exec C.ft R' n ac s = some (e, s')) (hG : Good C N z) (hh : z.h = w.heap) (hm : z.m = s.mem) (he : EnvOK C N z s.env a) {Q : Exit → Act → World → Prop} {F : Fence} {k : Nat} (hF : WideF F)
    (hK : ∀ a' w', Step C N z a w s' a' w' → Q .normal a' w') : e = .nxt ∧ (Code.region id ops draw).wpIn F k C.P Q a w := by
  have hcnt : (List.range ops.size).countP (fun i => !(Array.replicate ops.size false).getD i true) = ops.size := by
    rw [List.countP_eq_length.2 fun i hi => ?_]
    · simp
    · have := List.mem_range.1 hi
      simp [Array.getD_eq_getD_getElem?, this]
  have hfalse : ∀ i, (Array.replicate ops.size false).getD i false = false := fun i => by
    rw [Array.getD_eq_getD_getElem?, Array.getElem?_replicate]
    split <;> rfl
  simp only [trLazy, Option.bind_eq_some_iff] at htr
  obtain ⟨as, h1, htr⟩ := htr
  split at htr
  · rename_i hc
    obtain ⟨⟨rfl, hmk⟩, hlz⟩ := hc
    simp only [Option.some.injEq] at htr
    subst htr
    simp only [exec, Option.map_eq_some_iff] at h
    obtain ⟨s1, h2, h3⟩ := h
    cases h3
    refine ⟨rfl, ?_⟩
    have hok := OkZ_of (md := C.md) (ps := ops.toList.map preds) (as := as) (by rw [(mapM_RL' (S := fun _ _ => True) (fun _ _ _ => trivial) h1).1]; simp) hlz
    obtain ⟨p, p0, pn, ht⟩ := trace_of h2
    refine wpIn_region_any hC.mixed ?_
    refine region_lazy hC hR hY h1 (fun j o y ho hy hl => ?_) hok ht hF hG (a0 := a) (w0 := { w with drawn := w.drawn + 1 }) rfl ?_ ops.size (Array.replicate ops.size false) z (fun _ => none) _ s a hcnt (by simp) (fun i l hl hi => ?_) ?_ ?_ (fun j b h => by cases h) rfl rfl (WS.refl _)
    · have := List.all_eq_true.1 hmk (y, j) (by rw [List.mem_zipIdx_iff_getElem?]; exact hy)
      simp only [hl, ho, Bool.not_true, Bool.false_or] at this
      exact this
    · rw [pn]
      intro a' w' hst
      obtain ⟨z2, g1, g2, g3, g4, g5, g6, g7, g8⟩ := hst
      exact hK _ _ ⟨z2, g1, g2, g3, g4, g5, g6, g7, ⟨g8.os, g8.tape, g8.output⟩⟩
    · rw [hfalse] at hi; cases hi
    · have : (fun i => (Array.replicate ops.size false).getD i false = true ∧ (none : Option Nat) = none) = fun _ => False := funext fun i => by rw [hfalse]; simp
      rw [this, ← p0]
      exact InvD.init
    · exact ⟨by rw [Nz_none fun _ => rfl]; exact hG, hh, hm, by rw [Nz_none fun _ => rfl, maskZ_none fun _ => rfl]; exact he, Tr.refl z, fun j b h => (by cases h), fun j j' b h => (by cases h), fun j b h => (by cases h)⟩
  · cases htr
end
end Go.Ab
end

section
/-
  Regions: what their translation checks, and that they are sound.
-/
namespace Go.Ab
theorem latePairs_mem {ops : Array Oper} {p : Lp} (h : p ∈ latePairs ops) : (∃ o, ops[p.i]? = some o ∧ o.op = .alloc p.T ∧ o.guard = none ∧ o.dst = some p.t) ∧
    ∃ o v, ops[p.j]? = some o ∧ o.op = .store p.T (.tmp p.t) v ∧ o.guard = none ∧ o.dst = none := by
  simp only [latePairs, List.mem_filterMap] at h
  obtain ⟨⟨o, i⟩, h1, h2⟩ := h
  rw [List.mem_zipIdx_iff_getElem?] at h1
  split at h2
  · rename_i T t e1 e2 e3
    obtain ⟨⟨o', j⟩, h3, h4⟩ := List.exists_of_findSome?_eq_some h2
    rw [List.mem_zipIdx_iff_getElem?] at h3
    split at h4
    · rename_i T' t' v f1 f2 f3
      split at h4
      · rename_i hc
        obtain ⟨rfl, rfl⟩ := hc
        cases h4
        exact ⟨⟨o, by simpa using h1, e1, e2, e3⟩, o', v, by simpa using h3, f1, f2, f3⟩
      · cases h4
    · cases h4
  · cases h2
section
variable {C : Cx} {N N' : Nat → Nat → Prop} {z z1 z2 : Z} {w : World}
theorem late_of {ow : Ow} {nt : Nat} {ops : Array Oper} {pm : List Nat} {as : List AI} (hperm : permOK ops.size pm = true) (has : pm.mapM (fun i => (ops[i]?).bind (trLate C.P C.G ow nt ops (latePairs ops) i)) = some as)
    (hok : lateOK C.P nt ops (latePairs ops) pm as = true) : Late C ow nt ops (fun k => pm.getD k ops.size) (fun i => pm.idxOf i) as (latePairs ops) := by
  simp only [permOK, Bool.and_eq_true, beq_iff_eq, List.all_eq_true, List.mem_range, decide_eq_true_eq] at hperm
  obtain ⟨⟨hlen, hk⟩, hi⟩ := hperm
  simp only [lateOK, Bool.and_eq_true, List.all_eq_true, Bool.or_eq_true, Bool.not_eq_true', decide_eq_true_eq, beq_iff_eq, bne_iff_ne] at hok
  obtain ⟨hl1, hl2⟩ := hok
  obtain ⟨ha1, ha2⟩ := mapM_RL' (S := fun a i => (ops[i]?).bind (trLate C.P C.G ow nt ops (latePairs ops) i) = some a) (fun _ _ h => h) has
  have hat : ∀ (i : Nat) o, ops[i]? = some o → ∃ a, as[pm.idxOf i]? = some a ∧ trLate C.P C.G ow nt ops (latePairs ops) i o = some a := by
    intro i o ho
    have hil := (Array.getElem?_eq_some_iff.1 ho).1
    obtain ⟨h1, h2⟩ := hi i hil
    have hpl : pm.idxOf i < as.length := by rw [ha1, hlen]; exact h2
    have hpg : pm[pm.idxOf i]? = some i := by
      rw [List.getElem?_eq_getElem (by rw [hlen]; exact h2)]
      rw [List.getD_eq_getElem?_getD, List.getElem?_eq_getElem (by rw [hlen]; exact h2)] at h1
      simp
    have h3 := ha2 _ _ i (List.getElem?_eq_getElem hpl) hpg
    rw [ho] at h3
    exact ⟨_, List.getElem?_eq_getElem hpl, h3⟩
  refine ⟨by rw [ha1, hlen], fun k h => (hk k h).1, fun k h => ?_, fun i h => (hi i h).2, fun i h => (hi i h).1, fun k h => (hk k h).2, fun p hp => ?_, fun p hp => ?_, fun p hp k a hka hak => ?_, fun p hp q hq hpq => ?_, fun i o ho hno => ?_⟩
  · rw [List.getD_eq_getElem?_getD, List.getElem?_eq_none (by omega)]; exact Nat.le_refl _
  · obtain ⟨⟨o, h1, h2, h3, h4⟩, _⟩ := latePairs_mem hp
    obtain ⟨a, h5, h6⟩ := hat _ _ h1
    obtain ⟨⟨⟨_, hnt⟩, _⟩, _⟩ := hl1 p hp
    refine ⟨o, h1, h2, h3, h4, hnt, ?_⟩
    unfold trLate at h6
    have : ((latePairs ops).find? fun q => q.i == p.i).isSome = true := List.find?_isSome.2 ⟨p, hp, by simp⟩
    split at h6
    · cases h6; exact h5
    · rename_i hn; rw [hn] at this; cases this
  · obtain ⟨_, o, v, h1, h2, h3, h4⟩ := latePairs_mem hp
    obtain ⟨a, h5, h6⟩ := hat _ _ h1
    obtain ⟨⟨⟨hpr, _⟩, hz⟩, _⟩ := hl1 p hp
    rw [h1] at hpr
    simp only [List.contains_iff_mem] at hpr
    unfold trLate at h6
    split at h6
    · rename_i q hq
      have hq1 := List.find?_some hq
      have hq2 := List.mem_of_find?_eq_some hq
      obtain ⟨⟨o2, g1, g2, _⟩, _⟩ := latePairs_mem hq2
      rw [show q.i = p.j by simpa using hq1, h1] at g1
      cases g1
      rw [h2] at g2; cases g2
    · split at h6
      · obtain ⟨a0, h7, h8⟩ := Option.bind_eq_some_iff.1 h6
        obtain ⟨g1, _, g3, g4⟩ := trOper_parts h7
        rw [h2] at g3
        simp only [trOp, bind, pure, Option.map_eq_some_iff, Option.bind_eq_some_iff, Option.some.injEq] at g3
        obtain ⟨op0, ⟨sa, k1, sx, k2, n, k3, rfl⟩, k4⟩ := g3
        simp only [trX, Option.some.injEq] at k1
        subst k1
        have hgd : a0.gd = none := by
          rcases g4 with g4 | ⟨_, _, _, _, g4, _⟩
          · exact g4.2
          · rw [h3] at g4; cases g4
        have ha0 : a0 = ⟨none, none, .store (.t p.t) sx n⟩ := by
          obtain ⟨d, g, op⟩ := a0
          simp only at g1 hgd k4
          rw [g1, h4, hgd, ← k4]; rfl
        rw [ha0] at h7 h8
        simp only [Option.some.injEq] at h8
        rw [k3] at hz
        split at hz
        · rename_i zz nn e1 e2
          cases e2
          simp only [Bool.and_eq_true, beq_iff_eq, decide_eq_true_eq] at hz
          obtain ⟨⟨⟨q1, q2⟩, q3⟩, q4⟩ := hz
          exact ⟨o, sx, n, zz, h1, hpr, h4, h7, by rw [← h8] at h5; exact h5, e1, q1, q2, q3, q4⟩
        · cases hz
      · rename_i hn
        have : ((latePairs ops).find? fun q => q.j == p.j).isSome = true := List.find?_isSome.2 ⟨p, hp, by simp⟩
        rw [hn] at this; cases this
  · obtain ⟨_, hn⟩ := hl1 p hp
    have := hn (a, k) (by rw [List.mem_zipIdx_iff_getElem?]; exact hak)
    intro hmem
    rcases this with h | h
    · simp only at h; omega
    · simp at h; exact h hmem
  · have := hl2 p hp q hq
    exact this.resolve_left (fun h => h hpq)
  · obtain ⟨a, h5, h6⟩ := hat _ _ ho
    refine ⟨a, h5, ?_⟩
    unfold trLate at h6
    split at h6
    · rename_i q hq
      have hq1 := List.find?_some hq
      exact absurd (by simpa using hq1 : q.i = i).symm (hno q (List.mem_of_find?_eq_some hq)).1
    · split at h6
      · rename_i q hq
        have hq1 := List.find?_some hq
        exact absurd (by simpa using hq1 : q.j = i).symm (hno q (List.mem_of_find?_eq_some hq)).2
      · exact h6

theorem regionW_sound (hC : C.OK) {R' : Run} (hR : RunF C R') (hY : RunY C R') {ow : Ow} {id : Nat} {ops : Array Oper} {draw : Bool} {ac : ACode} {a : Act} {ck : List (List Nat) → List AI → List (Nat × Nat)} (htr : trRegW C.P C.G ow ck C.md a.tmps.size ops draw = some ac)
    {n : Nat} {s s' : St} {e : Ex} (h : exec C.ft R' n ac s = some (e, s')) (hG : Good C N z) (hh : z.h = w.heap) (hm : z.m = s.mem) (he : EnvOK C N z s.env a) {Q : Exit → Act → World → Prop} {F : Fence} {k : Nat} (hF : WideF F)
    (hK : ∀ a' w', Step C N z a w s' a' w' → Q .normal a' w') : e = .nxt ∧ (Code.region id ops draw).wpIn F k C.P Q a w := by
  have hrun : ∀ {as : List AI} {chks : List (Nat × Nat)}, (if chks.isEmpty then ACode.region as else .regionD as chks) = ac → e = .nxt ∧ execOps C.ft R' as s = some s' ∧ chkAll chks s'.env = true := by
    intro as chks htr
    by_cases hc : chks.isEmpty = true
    · rw [if_pos hc] at htr
      subst htr
      simp only [exec, Option.map_eq_some_iff] at h
      obtain ⟨s1, h2, h3⟩ := h
      cases h3
      exact ⟨rfl, h2, by rw [List.isEmpty_iff.1 hc]; rfl⟩
    · rw [if_neg hc] at htr
      subst htr
      simp only [exec, Option.bind_eq_some_iff] at h
      obtain ⟨s1, h2, h3⟩ := h
      split at h3
      · rename_i hq; cases h3; exact ⟨rfl, h2, hq⟩
      · cases h3
  have hcnt : (List.range ops.size).countP (fun i => !(Array.replicate ops.size false).getD i true) = ops.size := by
    rw [List.countP_eq_length.2 fun i hi => ?_]
    · simp
    · have := List.mem_range.1 hi
      simp [Array.getD_eq_getD_getElem?, this]
  have hfalse : ∀ i, (Array.replicate ops.size false).getD i false = false := fun i => by
    rw [Array.getD_eq_getD_getElem?, Array.getElem?_replicate]
    split <;> rfl
  cases draw with
  | false =>
    simp only [trRegW, Bool.false_eq_true, if_false, Option.map_eq_some_iff] at htr
    obtain ⟨as, h1, rfl⟩ := htr
    simp only [exec, Option.map_eq_some_iff] at h
    obtain ⟨s1, h2, h3⟩ := h
    cases h3
    exact ⟨rfl, wpIn_region_list (region_list hC hR hY hF ops.toList as z w s s' a h1 h2 hG hh hm he hK)⟩
  | true =>
    simp only [trRegW, if_true] at htr
    split at htr
    · rename_i as h1
      split at htr
      · rename_i hdr
        simp only [Option.some.injEq] at htr
        obtain ⟨rfl, h2, hq⟩ := hrun htr
        refine ⟨rfl, ?_⟩
        have hok : OkD C.md (ck (ops.toList.map preds) as) (ops.toList.map preds) as := OkD_of (by rw [(mapM_RL' (S := fun _ _ => True) (fun _ _ _ => trivial) h1).1]; simp) hdr
        obtain ⟨p, p0, pn, ht⟩ := trace_of h2
        refine wpIn_region_any hC.mixed ?_
        refine region_any hC hR hY hF h1 hok ht (by rw [pn]; exact hq) ops.size (Array.replicate ops.size false) z _ s a hcnt (by simp) (fun i l hl hi => ?_) ?_ rfl hG hh hm he ?_
        · rw [hfalse] at hi; cases hi
        · have : (fun i => (Array.replicate ops.size false).getD i false = true) = fun _ => False := funext fun i => by rw [hfalse]; simp
          rw [this, ← p0]
          exact InvD.init
        · rw [pn]
          intro a' w' hst
          obtain ⟨z2, g1, g2, g3, g4, g5, g6, g7, g8⟩ := hst
          exact hK _ _ ⟨z2, g1, g2, g3, g4, g5, g6, g7, ⟨g8.os, g8.tape, g8.output⟩⟩
      · simp only [trPerm] at htr
        obtain ⟨as2, h2, htr⟩ := Option.bind_eq_some_iff.1 htr
        split at htr
        · rename_i hc
          obtain ⟨hperm, hdr, hlate⟩ := hc
          simp only [Option.some.injEq] at htr
          generalize sched ops.size (ops.toList.map preds) _ ops.size [] = pm at h2 hperm hdr hlate htr
          obtain ⟨rfl, h3, hq⟩ := hrun htr
          refine ⟨rfl, ?_⟩
          have hL := late_of hperm h2 hlate
          have hlen2 := (mapM_RL' (S := fun _ _ => True) (fun _ _ _ => trivial) h2).1
          have hok := OkD_of (by rw [hlen2]; simp) hdr
          obtain ⟨p, p0, pn, ht⟩ := trace_of h3
          have hpg : ∀ i, i < ops.size → pm[pm.idxOf i]? = some i := fun i hi => by
            have h4 := hL.pq i hi
            have h5 := hL.qmlt i hi
            have h6 : pm.idxOf i < pm.length := by rw [← hlen2, hL.len]; exact h5
            simp only [List.getD_eq_getElem?_getD] at h4
            rw [List.getElem?_eq_getElem h6] at h4 ⊢
            simp
          have hps : ∀ (i : Nat) (o : Oper), ops[i]? = some o → (pm.map fun i => (((ops[i]?).map preds).getD []).map fun q => pm.idxOf q)[pm.idxOf i]? = some ((preds o).map fun q => pm.idxOf q) := by
            intro i o ho
            rw [List.getElem?_map, hpg i (Array.getElem?_eq_some_iff.1 ho).1, Option.map_some, ho]; rfl
          refine wpIn_region_any hC.mixed ?_
          refine region_late hC hR hY hL hok hps (fun i o ho q hq' => ?_) ht (by rw [pn]; exact hq) hF hG (a0 := a) (w0 := { w with drawn := w.drawn + 1 }) rfl ?_ ops.size (Array.replicate ops.size false) z (fun _ => none) _ s a hcnt (by simp) (fun i o _ hi => ?_) ?_ ?_ rfl rfl (WS.refl _)
          · have h5 := hok.lt _ _ (hps i o ho) (pm.idxOf q) (List.mem_map.2 ⟨q, hq', rfl⟩)
            have h6 := hL.qmlt i (Array.getElem?_eq_some_iff.1 ho).1
            have h7 : pm.idxOf q < pm.length := by rw [← hlen2, hL.len]; omega
            have h8 := hL.pmlt (pm.idxOf q) (by omega)
            simp only [List.getD_eq_getElem?_getD] at h8
            rw [List.getElem?_eq_getElem h7] at h8
            simpa [List.getElem_idxOf] using h8
          · rw [pn]
            intro a' w' hst
            obtain ⟨z2, g1, g2, g3, g4, g5, g6, g7, g8⟩ := hst
            exact hK _ _ ⟨z2, g1, g2, g3, g4, g5, g6, g7, ⟨g8.os, g8.tape, g8.output⟩⟩
          · rw [hfalse] at hi; cases hi
          · have : (fun k => (Array.replicate ops.size false).getD (pm.getD k ops.size) false = true) = fun _ => False := funext fun i => by rw [hfalse]; simp
            rw [this, ← p0]
            exact InvD.init
          · refine ⟨by rw [Np_none fun _ => rfl]; exact hG, hh, hm, by rw [Np_none fun _ => rfl, mask_none fun _ => rfl]; exact he, Tr.refl z, fun t b h => (by cases h), fun p _ h => ?_, fun p _ b h => (by cases h), fun t t' b h => (by cases h)⟩
            rw [hfalse] at h; cases h
        · cases htr
    · cases htr
theorem region_sound (hC : C.OK) {R' : Run} (hR : RunF C R') (hY : RunY C R') {ow : Ow} {id : Nat} {ops : Array Oper} {draw : Bool} {ac : ACode} {a : Act} (htr : trReg C.P C.G ow C.md a.tmps.size ops draw = some ac)
    {n : Nat} {s s' : St} {e : Ex} (h : exec C.ft R' n ac s = some (e, s')) (hG : Good C N z) (hh : z.h = w.heap) (hm : z.m = s.mem) (he : EnvOK C N z s.env a) {Q : Exit → Act → World → Prop} {F : Fence} {k : Nat} (hF : WideF F)
    (hK : ∀ a' w', Step C N z a w s' a' w' → Q .normal a' w') : e = .nxt ∧ (Code.region id ops draw).wpIn F k C.P Q a w := by
  unfold trReg at htr
  split at htr
  · rename_i c h1
    cases htr
    exact regionW_sound hC hR hY h1 h hG hh hm he hF hK
  · split at htr
    · rename_i c h1
      cases htr
      exact regionW_sound hC hR hY h1 h hG hh hm he hF hK
    · split at htr
      · rename_i c h1
        cases htr
        exact regionW_sound hC hR hY h1 h hG hh hm he hF hK
      · split at htr
        · rename_i c h1
          cases htr
          exact regionT_sound hC hR hY h1 h hG hh hm he hF hK
        · exact regionZ_sound hC hR hY htr h hG hh hm he hF hK
end
end Go.Ab
end
