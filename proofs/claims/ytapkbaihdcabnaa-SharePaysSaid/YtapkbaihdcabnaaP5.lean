/-
  A part of the proofs over this seat.
  (The texts KsM4 KsM5 KsK11 KsK12, one behind the other.)
-/
import Derived.Test.YtapkbaihdcabnaaP4
set_option linter.unusedSimpArgs false
set_option linter.unusedVariables false
set_option linter.unusedSectionVars false
section
namespace Go.Ab.T
theorem findC_app (f : Int) : ∀ (p q : List Ct), findC f (p ++ q) = (findC f p).or (findC f q)
  | [], q => rfl
  | c :: p, q => by
    show (if (c.film == f) = true then some c else findC f (p ++ q)) = Option.or (if (c.film == f) = true then some c else findC f p) (findC f q)
    split
    · rfl
    · exact findC_app f p q
theorem once_find : ∀ (l p : List Ct), onceF p l = true → ∀ c ∈ l, findC c.film (p ++ l) = some c
  | [], p, _, c, h => by cases h
  | x :: l, p, ho, c, h => by
    have ho : ((findC x.film p).isNone && onceF (p ++ [x]) l) = true := ho
    rw [Bool.and_eq_true] at ho
    rcases List.mem_cons.1 h with rfl | h
    · rw [findC_app, Option.isNone_iff_eq_none.1 ho.1]
      show (if (c.film == c.film) = true then some c else findC c.film l) = some c
      simp
    · have := once_find l (p ++ [x]) ho.2 c h
      simpa using this
theorem BV.find {b : Bk} (hb : BV b) {c : Ct} (hc : c ∈ b.cs) : findC c.film b.cs = some c := once_find b.cs [] hb.co c hc
theorem due_step {b : Bk} {c : Ct} {w : Int} (h0 : c.fi ≤ w) (h1 : w < c.la) : dueM b c w = dueM b c (w - 1) + (acc b c w).sh := by
  unfold dueM
  rw [if_pos h1, if_pos (by omega)]
  obtain ⟨n, hn⟩ : ∃ n : Nat, w = c.fi + n := ⟨(w - c.fi).toNat, by omega⟩
  rw [show (w - c.fi + 1).toNat = n + 1 by omega, show (w - 1 - c.fi + 1).toNat = n by omega, shSum, ← hn]
theorem due_first {b : Bk} {c : Ct} (h : c.fi ≤ c.la) : dueM b c (c.fi - 1) = 0 := by
  unfold dueM
  rw [if_pos (by omega), show (c.fi - 1 - c.fi + 1).toNat = 0 by omega]; rfl
theorem due_last {b : Bk} {c : Ct} (h : c.fi ≤ c.la) : dueM b c c.la = max (dueM b c (c.la - 1) + (acc b c c.la).sh) c.gu := by
  unfold dueM
  rw [if_neg (by omega), if_pos (by omega)]
  obtain ⟨n, hn⟩ : ∃ n : Nat, c.la = c.fi + n := ⟨(c.la - c.fi).toNat, by omega⟩
  rw [show (c.la - c.fi + 1).toNat = n + 1 by omega, show (c.la - 1 - c.fi + 1).toNat = n by omega, shSum, ← hn]
theorem due_end {b : Bk} {c : Ct} {w : Int} (h : c.la ≤ w) : dueM b c w = dueM b c c.la := by
  unfold dueM
  rw [if_neg (by omega), if_neg (by omega)]
theorem dueM_bound {b : Bk} (hb : BV b) {c : Ct} (hc : CV c) (w : Int) : 0 ≤ dueM b c w ∧ dueM b c w ≤ 20000000000 := by
  have a0 := hc.a0
  have a1 := hc.a1
  have a2 := hc.a2
  have g0 := hc.g0
  have g1 := hc.g1
  unfold dueM
  split
  · have := shSum_bound hb hc (w - c.fi + 1).toNat; omega
  · have := shSum_bound hb hc (c.la - c.fi + 1).toNat; omega
theorem weekM_some {b : Bk} {f w : Int} {c : Ct} (h0 : chk b = 0) (hs : findC f b.cs = some c) (h1 : c.fi ≤ w) (h2 : w ≤ c.la) : weekM b f w = (acc b c w, 0) := by
  unfold weekM
  rw [if_pos h0, hs]
  exact if_pos (inR_iff.2 ⟨h1, h2⟩)
theorem dueMM_some {b : Bk} {f w : Int} {c : Ct} (h0 : chk b = 0) (hs : findC f b.cs = some c) (h1 : 0 ≤ w) (h2 : w ≤ 99) : dueMM b f w = (dueM b c w, 0) := by
  unfold dueMM
  rw [if_pos h0, hs]
  exact if_pos (inR_iff.2 ⟨h1, h2⟩)
theorem totMM_some {b : Bk} {w : Int} (h0 : chk b = 0) (h1 : 0 ≤ w) (h2 : w ≤ 99) : totMM b w = (totM b w, 0) := by
  unfold totMM
  rw [if_pos h0]
  exact if_pos (inR_iff.2 ⟨h1, h2⟩)
theorem totG_AcB {b : Bk} (hb : BV b) (w : Int) : ∀ (l : List Ct) {a : Ac} {A : Int}, (∀ c ∈ l, CV c) → AcB a A → AcB (totG b w a l) (A + l.length * 100000000)
  | [], a, A, _, h => by
    have : totG b w a [] = a := rfl
    rw [this]; exact h.mono (by simp)
  | c :: l, a, A, hc, h => by
    rw [totG_cons]
    exact (totG_AcB hb w l (fun c h => hc c (by simp [h])) (totS_AcB hb (hc c (by simp)) w h)).mono (by simp only [List.length_cons]; omega)
theorem tog_bal {a b : Ac} (h1 : a.gr = a.tx + a.net) (h2 : a.net = a.sh + a.ho) (h3 : b.gr = b.tx + b.net) (h4 : b.net = b.sh + b.ho) : (tog a b).gr = (tog a b).tx + (tog a b).net ∧ (tog a b).net = (tog a b).sh + (tog a b).ho := by
  simp only [tog]; omega
theorem totG_bal {b : Bk} (hb : BV b) (hbal : ∀ c, CV c → ∀ w, (acc b c w).gr = (acc b c w).tx + (acc b c w).net ∧ (acc b c w).net = (acc b c w).sh + (acc b c w).ho) (w : Int) : ∀ (l : List Ct) {a : Ac}, (∀ c ∈ l, CV c) → a.gr = a.tx + a.net → a.net = a.sh + a.ho → (totG b w a l).gr = (totG b w a l).tx + (totG b w a l).net ∧ (totG b w a l).net = (totG b w a l).sh + (totG b w a l).ho
  | [], a, _, h1, h2 => ⟨h1, h2⟩
  | c :: l, a, hc, h1, h2 => by
    rw [totG_cons]
    have h3 := hbal c (hc c (by simp)) w
    have : (totS b w a c).gr = (totS b w a c).tx + (totS b w a c).net ∧ (totS b w a c).net = (totS b w a c).sh + (totS b w a c).ho := by
      unfold totS
      split
      · exact tog_bal h1 h2 h3.1 h3.2
      · exact ⟨h1, h2⟩
    exact totG_bal hb hbal w l (fun c h => hc c (by simp [h])) this.1 this.2
theorem totG_ru {b : Bk} (w : Int) : ∀ (l : List Ct) {a : Ac}, a.ru = 0 → (totG b w a l).ru = 0
  | [], a, h => h
  | c :: l, a, h => by
    rw [totG_cons]
    refine totG_ru w l ?_
    unfold totS
    split
    · rfl
    · exact h
end Go.Ab.T
end

section
namespace Go.Ab.T
theorem pickG_none {p : Rp → Bool} : ∀ {l : List Rp} {a : Option Rp}, pickG p a l = none → a = none ∧ ∀ r ∈ l, p r = false
  | [], a, h => ⟨h, fun r hr => by cases hr⟩
  | x :: l, a, h => by
    have h : pickG p (if p x = true then better a x else a) l = none := h
    obtain ⟨h1, h2⟩ := pickG_none h
    cases hp : p x
    · rw [hp] at h1
      exact ⟨h1, fun r hr => by rcases List.mem_cons.1 hr with rfl | hr; exact hp; exact h2 r hr⟩
    · rw [hp, if_pos rfl] at h1
      unfold better at h1
      split at h1
      · cases h1
      · split at h1 <;> cases h1
theorem pick_snoc' (p : Rp → Bool) (l : List Rp) (x : Rp) : pick p (l ++ [x]) = if p x = true then better (pick p l) x else pick p l := by
  unfold pick pickG; rw [List.foldl_append]; rfl
/-- A report with a number above all others is the last one. -/
theorem pick_top {p : Rp → Bool} {l : List Rp} {x : Rp} (h : ∀ r ∈ l, r.id < x.id) : pick p (l ++ [x]) = if p x = true then some x else pick p l := by
  rw [pick_snoc']
  split
  · cases hk : pick p l with
    | none => rfl
    | some y => exact if_pos (h y (pick_mem hk).1)
  · rfl
theorem sumT_upd {g : Nat → Int} {k : Nat} {c : Int} : ∀ n : Nat, sumT (fun t => if t = k then c else g t) n = sumT g n + if k < n then c - g k else 0
  | 0 => by simp [sumT]
  | n + 1 => by
    simp only [sumT, sumT_upd n]
    by_cases h1 : n = k
    · subst h1; rw [if_pos rfl, if_neg (by omega), if_pos (by omega)]; omega
    · rw [if_neg h1]
      by_cases h2 : k < n
      · rw [if_pos h2, if_pos (by omega)]; omega
      · rw [if_neg h2, if_neg (by omega)]; omega
theorem gross_audit {l : List Rp} {x : Rp} {f w : Int} (h : ∀ r ∈ l, r.id < x.id) (ho : isOf f w x = true) (hk : (x.kind == 2) = true) : gross (l ++ [x]) f w = x.cents := by
  unfold gross
  rw [pick_top h, if_pos (by unfold audP; rw [ho, hk]; rfl)]
theorem gross_till {l : List Rp} {x : Rp} {f w : Int} (h : ∀ r ∈ l, r.id < x.id) (ho : isOf f w x = true) (hk : (x.kind == 2) = false) (t0 : 0 ≤ x.till) (t1 : x.till ≤ 9) :
    gross (l ++ [x]) f w = match pick (audP f w) l with | some _ => gross l f w | none => gross l f w - tilC l f w x.till.toNat + x.cents := by
  have ha : pick (audP f w) (l ++ [x]) = pick (audP f w) l := by rw [pick_top h, if_neg (by unfold audP; rw [hk]; simp)]
  unfold gross
  rw [ha]
  cases hp : pick (audP f w) l with
  | some y => rfl
  | none =>
    dsimp only
    have e : ∀ t : Nat, tilC (l ++ [x]) f w t = if t = x.till.toNat then x.cents else tilC l f w t := fun t => by
      unfold tilC
      rw [pick_top h]
      by_cases ht : t = x.till.toNat
      · rw [if_pos ht, if_pos (by unfold tilP; rw [ho, hk]; simp; omega)]
      · rw [if_neg ht, if_neg (by unfold tilP; rw [ho, hk]; simp; omega)]
    rw [sumT_congr 10 fun t _ => e t, sumT_upd, if_pos (by omega)]
    show _ = sumT (tilC l f w) 10 - tilC l f w x.till.toNat + x.cents
    omega
/-! ### With more takings no share is less -/
theorem netOf_mono {tax g g' : Int} (t0 : 0 ≤ tax) (t1 : tax ≤ 1000) (h0 : 0 ≤ g) (h : g ≤ g') : netOf tax g ≤ netOf tax g' := by
  have h1 : (g' - g) * tax ≤ (g' - g) * 1000 := Int.mul_le_mul_of_nonneg_left t1 (by omega)
  have h2 : g' * tax = g * tax + (g' - g) * tax := by rw [← Int.add_mul]; congr 1; omega
  have h3 : 0 ≤ g * tax := Int.mul_nonneg h0 t0
  have h4 : 0 ≤ (g' - g) * tax := Int.mul_nonneg (by omega) t0
  unfold netOf mlr
  rw [Int.tdiv_eq_ediv_of_nonneg h3, Int.tdiv_eq_ediv_of_nonneg (by omega)]
  omega
theorem mlr_mono2 {x y m m' : Int} (h0 : 0 ≤ x) (h : x ≤ y) (hm : 0 ≤ m) (hm' : m ≤ m') : mlr x m ≤ mlr y m' := by
  have h1 : x * m ≤ y * m' := Int.le_trans (Int.mul_le_mul_of_nonneg_right h hm) (Int.mul_le_mul_of_nonneg_left hm' (by omega))
  have h2 : 0 ≤ x * m := Int.mul_nonneg h0 hm
  unfold mlr
  rw [Int.tdiv_eq_ediv_of_nonneg h2, Int.tdiv_eq_ediv_of_nonneg (by omega)]
  exact Int.ediv_le_ediv (by decide) h1
theorem milG_mono {n n' : Int} (h : n ≤ n') : ∀ (l : List Ti) {a a' : Int}, a ≤ a' → milG n a l ≤ milG n' a' l
  | [], a, a', ha => ha
  | t :: l, a, a', ha => by
    rw [milG_cons, milG_cons]
    refine milG_mono h l ?_
    split
    · rw [if_pos (by omega)]; omega
    · split <;> omega
theorem share_mono {tax : Int} (t0 : 0 ≤ tax) (t1 : tax ≤ 500) {c : Ct} (hc : CV c) (w : Int) {g g' : Int} (h0 : 0 ≤ g) (h : g ≤ g') : (settle tax c w g).sh ≤ (settle tax c w g').sh := by
  have hn := netOf_mono t0 (by omega) h0 h
  have hb := net_bound t0 t1 h0
  have h1 : sh1 c w (netOf tax g) ≤ sh1 c w (netOf tax g') := mlr_mono2 hb.1 hn (mille_bound hc w _).1 (milG_mono hn _ (Int.le_refl _))
  have h2 : sh2 c (netOf tax g) ≤ sh2 c (netOf tax g') := mlr_mono (by omega) (by omega) hc.o0
  simp only [settle, most]
  omega
/-! ### One more report -/
def nxId (m : Int) (l : List Rp) : Int := l.foldl (fun m r => max m (r.id + 1)) m
def withR (b : Bk) (r : Rp) : Rp := ⟨nxId 0 b.rs, r.kind, r.film, r.week, r.till, r.cents⟩
def withB (b : Bk) (r : Rp) : Bk := ⟨b.tax, b.cs, b.rs ++ [withR b r]⟩
theorem nxId_le : ∀ (l : List Rp) (m : Int), m ≤ nxId m l ∧ ∀ r ∈ l, r.id < nxId m l
  | [], m => ⟨Int.le_refl _, fun r hr => by cases hr⟩
  | x :: l, m => by
    have e : nxId m (x :: l) = nxId (max m (x.id + 1)) l := rfl
    rw [e]
    have := nxId_le l (max m (x.id + 1))
    refine ⟨by omega, fun r hr => ?_⟩
    rcases List.mem_cons.1 hr with rfl | hr
    · omega
    · exact this.2 r hr
theorem clsh_cons' (p : List Rp) (r : Rp) (q : List Rp) : clsh p (r :: q) = (p.any (fun x => x.id == r.id && !eqR x r) || clsh (p ++ [r]) q) := rfl
theorem clsh_snoc : ∀ (l p : List Rp) (x : Rp), clsh p (l ++ [x]) = (clsh p l || (p ++ l).any fun y => y.id == x.id && !eqR y x)
  | [], p, x => by
    show clsh p (x :: []) = _
    rw [clsh_cons', List.append_nil]
    show _ = (false || _)
    rw [Bool.false_or]
    show (_ || false) = _
    rw [Bool.or_false]
  | r :: l, p, x => by
    rw [List.cons_append, clsh_cons', clsh_cons', clsh_snoc l (p ++ [r]) x, Bool.or_assoc]
    simp
theorem chk_eq0 {b : Bk} (h1 : bkOK b = true) (h2 : rsOK b.cs b.rs = true) (h3 : clsh [] b.rs = false) : chk b = 0 := by
  unfold chk; rw [h1, h2, h3]; rfl
theorem chk_parts {b : Bk} (h : chk b = 0) : bkOK b = true ∧ rsOK b.cs b.rs = true ∧ clsh [] b.rs = false := by
  unfold chk at h
  cases h1 : bkOK b
  · rw [h1] at h; cases h
  · rw [h1, if_pos rfl] at h
    cases h2 : rsOK b.cs b.rs
    · rw [h2] at h; cases h
    · cases h3 : clsh [] b.rs
      · exact ⟨rfl, rfl, rfl⟩
      · rw [h2, h3] at h; cases h
/-- With another number of cents in the last report all is as valid. -/
theorem chk_cents {b : Bk} {r : Rp} {v : Int} (hc : chk (withB b r) = 0) (v0 : 0 ≤ v) (v1 : v ≤ 10000000) : chk (withB b ⟨r.id, r.kind, r.film, r.week, r.till, v⟩) = 0 := by
  obtain ⟨h1, h2, h3⟩ := chk_parts hc
  refine chk_eq0 h1 ?_ ?_
  · simp only [withB, rsOK, Bool.and_eq_true, decide_eq_true_eq, List.length_append, List.length_singleton, List.all_append, List.all_cons, List.all_nil] at h2 ⊢
    refine ⟨h2.1, h2.2.1, ?_, trivial⟩
    have h4 := h2.2.2.1
    unfold rpOK at h4 ⊢
    simp only [withR] at h4 ⊢
    split at h4
    · cases h4
    · rename_i c hf
      simp only [Bool.and_eq_true] at h4 ⊢
      exact ⟨h4.1, h4.2.1, h4.2.2.1, h4.2.2.2.1, inR_iff.2 ⟨v0, v1⟩⟩
  · show clsh [] (b.rs ++ [_]) = false
    have h3 : clsh [] (b.rs ++ [withR b r]) = false := h3
    rw [clsh_snoc] at h3 ⊢
    rw [(Bool.or_eq_false_iff.1 h3).1, Bool.false_or, List.nil_append, List.any_eq_false]
    intro y hy h5
    simp only [Bool.and_eq_true, beq_iff_eq] at h5
    have h6 := (nxId_le b.rs 0).2 y hy
    have h7 : y.id = nxId 0 b.rs := h5.1
    omega
end Go.Ab.T
end

section
namespace Go.Ab.T
set_option maxRecDepth 8000
set_option maxHeartbeats 4000000
theorem RV_of_WR {f : FuncId} {as : List AV} {v : AV} (h : WR ft (.f f) as .nil fun v' m => snap m dep v' = v) : RV ft f as v := by
  obtain ⟨n, p, h1, h2⟩ := h
  exact ⟨n, by simp only [callV, h1, Option.map_some, h2]⟩
/-- A slice that is built by appending, whatever else is. -/
def AppV (T : Nat) (es : List AV) (v : AV) (toks : List (Nat × Nat)) : Prop := (es = [] ∧ v = .sl [] .tight) ∨ (es ≠ [] ∧ ∃ t, v = .sl es (.at t) ∧ toks[t]? = some (es.length, T))
/-- The tokens of other types are as they were. -/
def TkK (T : Nat) (toks toks' : List (Nat × Nat)) : Prop := ∀ (t n T' : Nat), T' ≠ T → toks[t]? = some (n, T') → toks'[t]? = some (n, T')
theorem AppV.keep {T T2 : Nat} {es : List AV} {v : AV} {toks toks' : List (Nat × Nat)} (h : AppV T es v toks) (hne : T ≠ T2) (hk : TkK T2 toks toks') : AppV T es v toks' := by
  rcases h with h | ⟨h1, t, h2, h3⟩
  · exact .inl h
  · exact .inr ⟨h1, t, h2, hk t _ _ hne h3⟩
theorem AppV.sl {T : Nat} {es : List AV} {v : AV} {toks : List (Nat × Nat)} (h : AppV T es v toks) : ∃ tk, v = .sl es tk := by
  rcases h with ⟨rfl, rfl⟩ | ⟨_, t, rfl, _⟩ <;> exact ⟨_, rfl⟩
theorem AppV.app {T : Nat} {es : List AV} {v : AV} {toks : List (Nat × Nat)} (h : AppV T es v toks) {y : AV} {tk : Tk} {sz bytes : Nat} {blks : List Blk} {K : AV × Mem → Prop}
    (hs : ∀ e ∈ es, e.cells.length = sz) (hy : y.cells.length = sz) (hl : (es.length + 1) * (bytes + 1) ≤ limit)
    (hk : ∀ v' toks', AppV T (es ++ [y]) v' toks' → TkK T toks toks' → K (v', ⟨blks, toks'⟩)) : @OptH _ (appendAt ⟨blks, toks⟩ false v (.sl [y] tk) T sz bytes) ⟨K⟩ := by
  have h1 : hdSz [y] sz = true := by simp [hdSz, hy]
  have h2 : hdSz es sz = true := by
    cases es with
    | nil => rfl
    | cons e r => simp [hdSz, hs e (by simp)]
  rcases h with ⟨rfl, rfl⟩ | ⟨hne, t, rfl, ht⟩
  · simp only [appendAt, Mem.elems, h1, h2, OptH, List.length_cons, List.length_nil, List.nil_append, appTk]
    simp only [List.length_nil] at hl
    rw [if_neg (by simp), if_pos ⟨by simpa using hl, trivial⟩]
    refine hk _ _ (.inr ⟨by simp, toks.length, rfl, by simp⟩) fun t n T' hT ht => ?_
    rw [List.getElem?_append_left (List.getElem?_eq_some_iff.1 ht).1]; exact ht
  · simp only [appendAt, Mem.elems, h1, h2, OptH, List.length_cons, List.length_nil, appTk]
    rw [if_neg (by simp), if_pos ⟨by simpa using hl, trivial⟩]
    have : es.length ≠ 0 := by simpa using hne
    simp only [Bool.false_eq_true, if_false, Nat.zero_add, Nat.succ_ne_zero]
    rw [if_pos ⟨ht, this⟩]
    have hlt := (List.getElem?_eq_some_iff.1 ht).1
    refine hk _ _ (.inr ⟨by simp, t, rfl, by simp [hlt]⟩) fun t' n T' hT ht' => ?_
    have hne' : t ≠ t' := by rintro rfl; rw [ht] at ht'; cases ht'; exact hT rfl
    rw [List.getElem?_set_ne hne']; exact ht'
theorem AppV.copy {T : Nat} {ys : List AV} {toks : List (Nat × Nat)} {tk : Tk} {sz bytes : Nat} {blks : List Blk} {K : AV × Mem → Prop}
    (hs : hdSz ys sz = true) (hl : ys.length * (bytes + 1) ≤ limit)
    (hk : ∀ v' toks', AppV T ys v' toks' → (∀ T2, T ≠ T2 → TkK T toks toks') → (∀ (t : Nat) (x : Nat × Nat), toks[t]? = some x → toks'[t]? = some x) → K (v', ⟨blks, toks'⟩)) : @OptH _ (appendAt ⟨blks, toks⟩ false (.sl [] .tight) (.sl ys tk) T sz bytes) ⟨K⟩ := by
  simp only [appendAt, Mem.elems, hs, OptH, List.length_nil, Nat.zero_add, appTk, List.nil_append]
  rw [if_neg (by simp), if_pos ⟨by simpa using hl, rfl⟩]
  by_cases hy : ys = []
  · subst hy
    exact hk _ _ (.inl ⟨rfl, rfl⟩) (fun _ _ t n T' _ h => h) fun t x h => h
  · have : ys.length ≠ 0 := by simpa using hy
    simp only [Bool.false_eq_true, if_false]
    rw [if_neg this]
    refine hk _ _ (.inr ⟨hy, toks.length, rfl, by simp⟩) (fun _ _ t n T' _ h => ?_) fun t x h => ?_ <;>
    · rw [List.getElem?_append_left (List.getElem?_eq_some_iff.1 h).1]; exact h
theorem AppV.stay {T : Nat} {es : List AV} {v : AV} {toks toks' : List (Nat × Nat)} (h : AppV T es v toks) (hk : ∀ (t : Nat) (x : Nat × Nat), toks[t]? = some x → toks'[t]? = some x) : AppV T es v toks' := by
  rcases h with h | ⟨h1, t, h2, h3⟩
  · exact .inl h
  · exact .inr ⟨h1, t, h2, hk _ _ h3⟩
theorem apart_psl (a b c : Nat) (es : List AV) (tk : Tk) : apart (.ptr a b c) (.sl es tk) = true := rfl
attribute [go_sem] apart_psl
theorem wC3 (c : Ct) (v : AV) : writeCells (encC c) 3 [v] = some (.agg [I64 c.film, I64 c.fi, I64 c.la, v, encTs c.ti, I64 c.nut, I64 c.ov, I64 c.fl, I64 c.gu]) := rfl
/-- A contract whose slices are as they were appended. -/
structure CT where
  c : Ct
  k1 : Tk
  k2 : Tk
def encCT (x : CT) : AV := .agg [I64 x.c.film, I64 x.c.fi, I64 x.c.la, .sl (x.c.st.map I64) x.k1, .sl (x.c.ti.map encT) x.k2, I64 x.c.nut, I64 x.c.ov, I64 x.c.fl, I64 x.c.gu]
theorem snCT (m : Mem) (q : Nat) (x : CT) : snap m (q + 4) (encCT x) = encC x.c := by
  show AV.agg [I64 x.c.film, I64 x.c.fi, I64 x.c.la, .sl ((x.c.st.map I64).map (snap m (q + 2))) .unk, .sl ((x.c.ti.map encT).map (snap m (q + 2))) .unk, I64 x.c.nut, I64 x.c.ov, I64 x.c.fl, I64 x.c.gu] = _
  rw [List.map_map, List.map_map, show snap m (q + 2) ∘ I64 = I64 from funext fun _ => rfl, show snap m (q + 2) ∘ encT = encT from funext fun t => snT m q t]; rfl
theorem hotCT (q : Nat) (x : CT) : hot (q + 4) (encCT x) = false := by
  have h1 : (x.c.st.map I64).any (hot (q + 2)) = false := by rw [List.any_map, List.any_eq_false]; intro y _; simp only [Function.comp]; rw [show hot (q + 2) (I64 y) = false from rfl]; decide
  have h2 : (x.c.ti.map encT).any (hot (q + 2)) = false := by rw [List.any_map, List.any_eq_false]; intro y _; simp only [Function.comp]; rw [hotT q y]; decide
  show (false || (false || (false || ((x.c.st.map I64).any (hot (q + 2)) || ((x.c.ti.map encT).any (hot (q + 2)) || false))))) = false
  rw [h1, h2]; rfl
/-- Books as Copy makes them. -/
def encBT (tax : Int) (T : List CT) (kc : Tk) (rs : List Rp) (kr : Tk) : AV := .agg [I64 tax, .sl (T.map encCT) kc, .sl (rs.map encR) kr]
theorem snBT (m : Mem) (q : Nat) (tax : Int) (T : List CT) (kc : Tk) (rs : List Rp) (kr : Tk) : snap m (q + 6) (encBT tax T kc rs kr) = encB ⟨tax, T.map CT.c, rs⟩ := by
  show AV.agg [I64 tax, .sl ((T.map encCT).map (snap m (q + 4))) .unk, .sl ((rs.map encR).map (snap m (q + 4))) .unk] = _
  rw [List.map_map, List.map_map, show snap m (q + 4) ∘ encCT = encC ∘ CT.c from funext fun x => snCT m q x, show snap m (q + 4) ∘ encR = encR from funext fun t => snR m (q + 2) t]
  show _ = AV.agg [I64 tax, .sl ((T.map CT.c).map encC) .unk, .sl (rs.map encR) .unk]
  rw [List.map_map]
theorem cellsCT (T : List CT) : ∀ e ∈ T.map encCT, e.cells.length = 9 := fun e he => by
  obtain ⟨x, _, rfl⟩ := List.mem_map.1 he; rfl
theorem hdR (l : List Rp) : hdSz (l.map encR) 6 = true := hdSz_map' encR 6 l fun _ => rfl
theorem Copy_run (b : Bk) (h1 : b.cs.length ≤ 1000) (h2 : b.rs.length ≤ 1000) (h3 : ∀ c ∈ b.cs, c.st.length ≤ 1000 ∧ c.ti.length ≤ 1000) (K : AV → Mem → Prop)
    (hK : ∀ T kc kr bl toks, T.map CT.c = b.cs → AppV 39 (T.map encCT) (.sl (T.map encCT) kc) toks → AppV 52 (b.rs.map encR) (.sl (b.rs.map encR) kr) toks → K (encBT b.tax T kc b.rs kr) ⟨bl, toks⟩) : WR ft (.f 22) [encB b] .nil K := by
  rw [WR_f ft22 rfl]
  simp only [c22, r22]
  simp only [go_sem, Nat.reduceEqDiff, Nat.reduceAdd, Nat.reduceLT, Nat.reduceLeDiff, reduceIte]
  unfold encRs
  refine AppV.copy (hdR b.rs) (by rw [List.length_map]; unfold limit; omega) fun vr toks1 hvr _ _ => ?_
  obtain ⟨kr, rfl⟩ := hvr.sl
  simp only [go_sem, Nat.reduceEqDiff, Nat.reduceAdd, Nat.reduceLT, Nat.reduceLeDiff, reduceIte]
  refine WL_inv (α := Nat × List Ct × List CT × AV) (fun q e mm => e 1 = .ptr 0 0 0 ∧ e 2 = .ptr 1 0 0 ∧ e 3 = .ptr 2 0 0 ∧ e 4 = I64 q.1 ∧ b.cs.drop q.1 = q.2.1 ∧ q.2.2.1.map CT.c ++ q.2.1 = b.cs ∧ q.2.2.1.length = q.1 ∧ ∃ bl toks, mm = ⟨.live [encB b] 3 :: .live [.agg [I64 0, .sl [] .tight, .sl [] .tight]] 3 :: .live [.agg [I64 b.tax, q.2.2.2, .sl (b.rs.map encR) kr]] 3 :: bl, toks⟩ ∧ AppV 39 (q.2.2.1.map encCT) q.2.2.2 toks ∧ AppV 52 (b.rs.map encR) (.sl (b.rs.map encR) kr) toks) (fun q => q.2.1.length) (0, b.cs, [], .sl [] .tight) ?_ ?_
  · simp only [go_sem, Nat.reduceEqDiff, Nat.reduceAdd, Nat.reduceLT, Nat.reduceLeDiff, reduceIte]
    exact ⟨trivial, trivial, trivial, rfl, trivial, trivial, trivial, _, _, rfl, .inl ⟨rfl, rfl⟩, hvr⟩
  rintro ⟨k, r, T, v⟩ e m ⟨g1, g2, g3, g4, hd, hq, hT, bl, toks, rfl, hv, hvr⟩
  dsimp only at g4 hd hq hT hv
  obtain ⟨kc, rfl⟩ := hv.sl
  cases r with
  | nil =>
    have h4 := drop_nil hd
    rw [List.append_nil] at hq
    simp only [go_sem, Nat.reduceEqDiff, Nat.reduceAdd, Nat.reduceLT, Nat.reduceLeDiff, reduceIte, g1, g2, g3, g4, dec_ge h4]
    exact hK T kc kr _ _ hq hv hvr
  | cons x r =>
    obtain ⟨hk, hd2, hlt⟩ := drop_cons hd
    have hx := h3 x (List.mem_of_getElem? hk)
    simp only [go_sem, Nat.reduceEqDiff, Nat.reduceAdd, Nat.reduceLT, Nat.reduceLeDiff, reduceIte, g1, g2, g3, g4, dec_lt hlt, Cs_idx hk]
    unfold encIs
    refine AppV.copy (hdSz_map' I64 1 _ fun _ => rfl) (by rw [List.length_map]; unfold limit; omega) fun v1 toks1 hv1 _ hs1 => ?_
    obtain ⟨k1, rfl⟩ := hv1.sl
    simp only [go_sem, Nat.reduceEqDiff, Nat.reduceAdd, Nat.reduceLT, Nat.reduceLeDiff, reduceIte, g1, g2, g3]
    unfold encTs
    refine AppV.copy (hdSz_map' encT 2 _ fun _ => rfl) (by rw [List.length_map]; unfold limit; omega) fun v2 toks2 hv2 _ hs2 => ?_
    obtain ⟨k2, rfl⟩ := hv2.sl
    have hE : AV.agg [I64 x.film, I64 x.fi, I64 x.la, .sl (x.st.map I64) k1, .sl (x.ti.map encT) k2, I64 x.nut, I64 x.ov, I64 x.fl, I64 x.gu] = encCT ⟨x, k1, k2⟩ := rfl
    have hEc : (encCT ⟨x, k1, k2⟩).cells = [I64 x.film, I64 x.fi, I64 x.la, .sl (x.st.map I64) k1, .sl (x.ti.map encT) k2, I64 x.nut, I64 x.ov, I64 x.fl, I64 x.gu] := rfl
    simp only [go_sem, Nat.reduceEqDiff, Nat.reduceAdd, Nat.reduceLT, Nat.reduceLeDiff, reduceIte, g1, g2, g3, wC3, hE, hEc]
    refine ((hv.stay hs1).stay hs2).app (y := encCT ⟨x, k1, k2⟩) (sz := 9) (bytes := 104) (cellsCT T) rfl (by rw [List.length_map]; unfold limit; omega) fun v3 toks3 hv3 ht3 => ?_
    have hmap : T.map encCT ++ [encCT ⟨x, k1, k2⟩] = (T ++ [(⟨x, k1, k2⟩ : CT)]).map encCT := by simp
    rw [hmap] at hv3
    obtain ⟨kc3, rfl⟩ := hv3.sl
    simp only [go_sem, Nat.reduceEqDiff, Nat.reduceAdd, Nat.reduceLT, Nat.reduceLeDiff, reduceIte, g1, g2, g3, g4, wrap_n1 k (by omega)]
    refine Nx_of (k + 1, r, T ++ [(⟨x, k1, k2⟩ : CT)], .sl ((T ++ [(⟨x, k1, k2⟩ : CT)]).map encCT) kc3) (by simp) ?_
    simp only [go_sem, Nat.reduceEqDiff, Nat.reduceAdd, Nat.reduceLT, Nat.reduceLeDiff, reduceIte, g1, g2, g3]
    exact ⟨trivial, trivial, trivial, trivial, hd2, by rw [← hq]; simp, by simp [hT], _, _, rfl, hv3, ((hvr.stay hs1).stay hs2).keep (by decide) ht3⟩
theorem Copy_ok (b : Bk) (h1 : b.cs.length ≤ 1000) (h2 : b.rs.length ≤ 1000) (h3 : ∀ c ∈ b.cs, c.st.length ≤ 1000 ∧ c.ti.length ≤ 1000) : RV ft 22 [encB b] (encB b) :=
  RV_of_WR (Copy_run b h1 h2 h3 _ fun T kc kr bl toks hT _ _ => by
    rw [show dep = 6 + 6 from rfl, snBT, hT])
def shTk (dt : Nat) : Tk → Tk
  | .at t => .at (dt + t)
  | k => k
theorem shift_sl (db dt k : Nat) (es : List AV) (tk : Tk) : shift db dt (k + 1) (.sl es tk) = .sl (es.map (shift db dt k)) (shTk dt tk) := by cases tk <;> rfl
def shCT (dt : Nat) (x : CT) : CT := ⟨x.c, shTk dt x.k1, shTk dt x.k2⟩
theorem shift_CT (db dt q : Nat) (x : CT) : shift db dt (q + 4) (encCT x) = encCT (shCT dt x) := by
  show AV.agg [I64 x.c.film, I64 x.c.fi, I64 x.c.la, shift db dt (q + 3) (.sl (x.c.st.map I64) x.k1), shift db dt (q + 3) (.sl (x.c.ti.map encT) x.k2), I64 x.c.nut, I64 x.c.ov, I64 x.c.fl, I64 x.c.gu] = _
  rw [shift_sl, shift_sl, List.map_map, List.map_map, show shift db dt (q + 2) ∘ I64 = I64 from funext fun _ => rfl, show shift db dt (q + 2) ∘ encT = encT from funext fun t => rfl]; rfl
theorem shift_BT (db dt q : Nat) (tax : Int) (T : List CT) (kc : Tk) (rs : List Rp) (kr : Tk) : shift db dt (q + 6) (encBT tax T kc rs kr) = encBT tax (T.map (shCT dt)) (shTk dt kc) rs (shTk dt kr) := by
  show AV.agg [I64 tax, shift db dt (q + 5) (.sl (T.map encCT) kc), shift db dt (q + 5) (.sl (rs.map encR) kr)] = _
  rw [shift_sl, shift_sl, List.map_map, List.map_map, show shift db dt (q + 4) ∘ encCT = encCT ∘ shCT dt from funext fun x => shift_CT db dt q x, show shift db dt (q + 4) ∘ encR = encR from funext fun t => rfl, ← List.map_map]; rfl
theorem wR0 (r : Rp) (v : AV) : writeCells (encR r) 0 [v] = some (.agg [v, I64 r.kind, I64 r.film, I64 r.week, I64 r.till, I64 r.cents]) := rfl
theorem shTk0 (k : Tk) : shTk 0 k = k := by cases k <;> simp [shTk]
theorem shift_BT0 (db : Nat) (tax : Int) (T : List CT) (kc : Tk) (rs : List Rp) (kr : Tk) : shift db 0 12 (encBT tax T kc rs kr) = encBT tax T kc rs kr := by
  rw [show (12 : Nat) = 6 + 6 from rfl, shift_BT, shTk0, shTk0, show shCT 0 = id from funext fun x => by show CT.mk _ _ _ = _; rw [shTk0, shTk0]; rfl, List.map_id]
theorem joinMem_mk (a b : List Blk) (s t : List (Nat × Nat)) (k : Nat) : joinMem ⟨a, s⟩ ⟨b, t⟩ k = ⟨a ++ b.map (shiftB a.length s.length k), s ++ t⟩ := rfl
theorem hotA1 (b : Bk) : (List.all [encB b] fun a => !hot 12 a) = true := by
  rw [List.all_cons, show hot 12 (encB b) = false from hotB 6 b]; rfl
theorem with_ok (b : Bk) (r : Rp) (hb : BV b) : RV ft 26 [encB b, encR r] (encB (withB b r)) := by
  refine RV_of ft26 rfl ?_
  simp only [c26, r26]
  have hrl := hb.rl
  have hcl := hb.cl
  simp only [go_sem, Nat.reduceEqDiff, Nat.reduceAdd, Nat.reduceLT, Nat.reduceLeDiff, reduceIte, WB22, hotA1]
  rw [show (Mem.mk [] []) = Mem.nil from rfl]
  refine Copy_run b (by omega) (by omega) (fun c hc => by have := hb.cv c hc; have := this.s1; have := (hb.cv c hc).t1; omega) _ fun T kc kr bl toks hT hvc hvr => ?_
  dsimp only
  generalize hbl : bl.map (shiftB [Blk.live [encB b] 3, Blk.live [encR r] 6, Blk.live [.agg [I64 0, .sl [] .tight, .sl [] .tight]] 3].length ([] : List (Nat × Nat)).length dep) = bl'
  have hbl' : bl.map (shiftB 3 0 12) = bl' := hbl
  have hBc : (encBT b.tax T kc b.rs kr).cells = [I64 b.tax, .sl (T.map encCT) kc, .sl (b.rs.map encR) kr] := rfl
  simp only [go_sem, Nat.reduceEqDiff, Nat.reduceAdd, Nat.reduceLT, Nat.reduceLeDiff, reduceIte, shift_BT0, joinMem_mk, hbl', hBc, true_and, wR0]
  refine WL_inv (α := Nat × List Rp × Int) (fun q e mm => e 2 = .ptr 0 0 0 ∧ e 3 = .ptr 1 0 0 ∧ e 4 = .ptr 2 0 0 ∧ e 5 = .ptr (bl'.length + 3) 0 0 ∧ e 6 = I64 q.1 ∧ b.rs.drop q.1 = q.2.1 ∧ nxId q.2.2 q.2.1 = nxId 0 b.rs ∧ 0 ≤ q.2.2 ∧ q.2.2 ≤ 100 ∧ mm = ⟨.live [encB b] 3 :: .live [.agg [I64 q.2.2, I64 r.kind, I64 r.film, I64 r.week, I64 r.till, I64 r.cents]] 6 :: .live [.agg [I64 0, .sl [] .tight, .sl [] .tight]] 3 :: (bl' ++ [.live [.agg [I64 b.tax, .sl (T.map encCT) kc, .sl (b.rs.map encR) kr]] 3]), toks⟩) (fun q => q.2.1.length) (0, b.rs, 0) ?_ ?_
  · simp only [go_sem, Nat.reduceEqDiff, Nat.reduceAdd, Nat.reduceLT, Nat.reduceLeDiff, reduceIte]
    ((repeat' apply And.intro) <;> first | trivial | rfl | exact ⟨_, _, rfl⟩ | omega | assumption)
  rintro ⟨k, l, m'⟩ e m ⟨g2, g3, g4, g5, g6, hd, hq, m0, m1, rfl⟩
  dsimp only at g6 hd hq m0 m1
  cases l with
  | cons x l =>
    obtain ⟨hk, hd2, hlt⟩ := drop_cons hd
    have hx := hb.rv x (List.mem_of_getElem? hk)
    have i0 := hx.i0
    have i1 := hx.i1
    have w1 : IntKind.i64.wrap (x.id + 1) = x.id + 1 := wrap_i64 _ (by omega) (by omega)
    simp only [go_sem, Nat.reduceEqDiff, Nat.reduceAdd, Nat.reduceLT, Nat.reduceLeDiff, reduceIte, g2, g3, g4, g5, g6, dec_lt hlt, Rs_idx hk, w1, wrap_n1 k (by omega)]
    refine Nx_of (k + 1, l, max m' (x.id + 1)) (by simp) ?_
    simp only [go_sem, Nat.reduceEqDiff, Nat.reduceAdd, Nat.reduceLT, Nat.reduceLeDiff, reduceIte, g2, g3, g4, g5]
    exact ⟨trivial, trivial, trivial, trivial, trivial, hd2, hq, by omega, by omega, trivial⟩
  | nil =>
    have h4 := drop_nil hd
    have hq : m' = nxId 0 b.rs := hq
    subst hq
    have hRe : AV.agg [I64 (nxId 0 b.rs), I64 r.kind, I64 r.film, I64 r.week, I64 r.till, I64 r.cents] = encR (withR b r) := rfl
    simp only [go_sem, Nat.reduceEqDiff, Nat.reduceAdd, Nat.reduceLT, Nat.reduceLeDiff, reduceIte, g2, g3, g4, g5, g6, dec_ge h4, hRe]
    refine hvr.app (y := encR (withR b r)) (sz := 6) (bytes := 48) (fun e he => by obtain ⟨y, _, rfl⟩ := List.mem_map.1 he; rfl) rfl (by rw [List.length_map]; unfold limit; omega) fun v3 toks3 hv3 ht3 => ?_
    obtain ⟨k3, rfl⟩ := hv3.sl
    simp only [go_sem, Nat.reduceEqDiff, Nat.reduceAdd, Nat.reduceLT, Nat.reduceLeDiff, reduceIte, g2, g3, g4, g5, g6]
    have hs : b.rs.map encR ++ [encR (withR b r)] = (b.rs ++ [withR b r]).map encR := by simp
    rw [hs]
    show AV.agg [I64 b.tax, .sl ((T.map encCT).map (snap _ 10)) .unk, .sl (((b.rs ++ [withR b r]).map encR).map (snap _ 10)) .unk] = _
    rw [List.map_map, List.map_map, show ∀ m, snap m 10 ∘ encCT = encC ∘ CT.c from fun m => funext fun x => snCT m 6 x, show ∀ m, snap m 10 ∘ encR = encR from fun m => funext fun t => snR m 8 t, ← List.map_map, hT]
    rfl
end Go.Ab.T
end

section
namespace Go.Ab.T
set_option maxRecDepth 8000
set_option maxHeartbeats 4000000
structure Ak where
  f : Int
  w : Int
  s : Int
def encX (x : Ak) : AV := .agg [I64 x.f, I64 x.w, I64 x.s]
theorem XCells (x : Ak) : (encX x).cells = [I64 x.f, I64 x.w, I64 x.s] := rfl
theorem snX (m : Mem) (q : Nat) (x : Ak) : snap m (q + 2) (encX x) = encX x := rfl
theorem hotX (q : Nat) (x : Ak) : hot (q + 2) (encX x) = false := rfl
attribute [go_sem] XCells snX hotX
def validM (b : Bk) (f w : Int) : Bool := !farM b && (chk b == 0 && (match findC f b.cs with | some c => inR w c.fi c.la | none => false))
theorem valid_ok (b : Bk) (f w s : Int) : RV ft 20 [encB b, .agg [I64 f, I64 w, I64 s]] (.bool (validM b f w)) := by
  refine RV_of ft20 rfl ?_
  simp only [c20, r20]
  unfold validM
  cases h1 : farM b
  case true => simp only [go_sem, Nat.reduceEqDiff, Nat.reduceAdd, Nat.reduceLT, Nat.reduceLeDiff, reduceIte, WB14, WVH_eq (Far_ok b), true_and, h1]
  have hF := farM_NF h1
  by_cases h0 : chk b = 0
  case neg =>
    have e0 : (chk b == 0) = false := by simpa using h0
    simp only [go_sem, Nat.reduceEqDiff, Nat.reduceAdd, Nat.reduceLT, Nat.reduceLeDiff, reduceIte, WB14, WVH_eq (Far_ok b), true_and, h1, WB15, WVH_eq (CheckR_ok b hF), ne0 h0]
    rw [e0]; rfl
  have hC := CheckR_ok b hF
  rw [h0] at hC
  have hf := Contract_ok b f hF.c
  rw [h0]
  cases hs : findC f b.cs with
  | none =>
    rw [hs] at hf
    simp only [go_sem, Nat.reduceEqDiff, Nat.reduceAdd, Nat.reduceLT, Nat.reduceLeDiff, reduceIte, WB14, WVH_eq (Far_ok b), true_and, h1, WB15, WVH_eq hC, show ((0 : Int) != 0) = false from rfl, WB21, WVH_eq hf, Option.getD, Option.isSome]
  | some c =>
    rw [hs] at hf
    dsimp only
    unfold inR
    cases c1 : decide (c.fi ≤ w)
    · simp only [go_sem, Nat.reduceEqDiff, Nat.reduceAdd, Nat.reduceLT, Nat.reduceLeDiff, reduceIte, WB14, WVH_eq (Far_ok b), true_and, h1, WB15, WVH_eq hC, show ((0 : Int) != 0) = false from rfl, WB21, WVH_eq hf, Option.getD, Option.isSome, c1]
    · simp only [go_sem, Nat.reduceEqDiff, Nat.reduceAdd, Nat.reduceLT, Nat.reduceLeDiff, reduceIte, WB14, WVH_eq (Far_ok b), true_and, h1, WB15, WVH_eq hC, show ((0 : Int) != 0) = false from rfl, WB21, WVH_eq hf, Option.getD, Option.isSome, c1]
theorem validM_iff {b : Bk} {f w : Int} (h : validM b f w = true) : farM b = false ∧ chk b = 0 ∧ ∃ c, findC f b.cs = some c ∧ c.fi ≤ w ∧ w ≤ c.la := by
  unfold validM at h
  simp only [Bool.and_eq_true, Bool.not_eq_true', beq_iff_eq] at h
  refine ⟨h.1, h.2.1, ?_⟩
  have h3 := h.2.2
  split at h3
  · rename_i c hc; exact ⟨c, hc, inR_iff.1 h3⟩
  · cases h3
theorem mnl5 (a b c d e : Int) : mnl false (I64 a) [I64 b, I64 c, I64 d, I64 e] = some (I64 (min (min (min (min a b) c) d) e)) := by
  simp only [mnl, mnx_min, Option.bind_some]
theorem balanced_ok (a : Ac) {B : Int} (h : AcB a B) (hB : B ≤ 1000000000000) (h1 : a.gr = a.tx + a.net) (h2 : a.net = a.sh + a.ho) : RV ft 18 [encA a] (.bool true) := by
  refine RV_of ft18 rfl ?_
  simp only [c18, r18]
  obtain ⟨a1, a2, a3, a4, a5, a6, a7, a8, a9, a10⟩ := h
  have w1 : IntKind.i64.wrap (a.tx + a.net) = a.gr := by rw [wrap_i64 _ (by omega) (by omega)]; omega
  have w2 : IntKind.i64.wrap (a.sh + a.ho) = a.net := by rw [wrap_i64 _ (by omega) (by omega)]; omega
  have c1 : decide (0 ≤ min (min (min (min a.gr a.tx) a.net) a.sh) a.ho) = true := decide_eq_true (by omega)
  simp only [go_sem, Nat.reduceEqDiff, Nat.reduceAdd, Nat.reduceLT, Nat.reduceLeDiff, reduceIte, w1, w2, mnl5, c1]
theorem acc_bal {b : Bk} (hb : BV b) {c : Ct} (hc : CV c) (w : Int) : (acc b c w).gr = (acc b c w).tx + (acc b c w).net ∧ (acc b c w).net = (acc b c w).sh + (acc b c w).ho := by
  have h1 := gross_bound hb.rv c.film w
  have h2 := settle_bound hb.x0 hb.x1 hc (w := w) h1.1
  exact ⟨h2.1, h2.2.1⟩
theorem sameReports_ok (l : List Rp) (hl : l.length < 1073741824) : RV ft 53 [encRs l, encRs l] (.bool true) := by
  refine RV_of ft53 rfl ?_
  simp only [c53, r53]
  simp only [go_sem, Nat.reduceEqDiff, Nat.reduceAdd, Nat.reduceLT, Nat.reduceLeDiff, reduceIte, bne_self_eq_false]
  refine WL_inv (α := Nat) (fun q e mm => e 0 = encRs l ∧ e 1 = encRs l ∧ e 5 = I64 q ∧ q ≤ l.length) (fun q => l.length - q) 0 ?_ ?_
  · simp only [go_sem, Nat.reduceEqDiff, Nat.reduceAdd, Nat.reduceLT, Nat.reduceLeDiff, reduceIte]
    exact ⟨trivial, trivial, rfl, by omega⟩
  rintro q e m ⟨g0, g1, g5, hq⟩
  by_cases hlt : q < l.length
  · have hk := List.getElem?_eq_getElem hlt
    simp only [go_sem, Nat.reduceEqDiff, Nat.reduceAdd, Nat.reduceLT, Nat.reduceLeDiff, reduceIte, g0, g1, g5, dec_lt hlt, Rs_idx hk, eqR_iff.2 rfl, wrap_n1 q (by omega)]
    refine Nx_of (q + 1) (by first | omega | (simp; omega)) ?_
    simp only [go_sem, Nat.reduceEqDiff, Nat.reduceAdd, Nat.reduceLT, Nat.reduceLeDiff, reduceIte, g0, g1]
    exact ⟨trivial, trivial, trivial, by omega⟩
  · simp only [go_sem, Nat.reduceEqDiff, Nat.reduceAdd, Nat.reduceLT, Nat.reduceLeDiff, reduceIte, g0, g1, g5, dec_ge (show l.length ≤ q by omega)]
theorem samePaid_ok (l : List Py) (hl : l.length < 1073741824) : RV ft 29 [encPs l, encPs l] (.bool true) := by
  refine RV_of ft29 rfl ?_
  simp only [c29, r29]
  simp only [go_sem, Nat.reduceEqDiff, Nat.reduceAdd, Nat.reduceLT, Nat.reduceLeDiff, reduceIte, bne_self_eq_false]
  refine WL_inv (α := Nat) (fun q e mm => e 0 = encPs l ∧ e 1 = encPs l ∧ e 5 = I64 q ∧ q ≤ l.length) (fun q => l.length - q) 0 ?_ ?_
  · simp only [go_sem, Nat.reduceEqDiff, Nat.reduceAdd, Nat.reduceLT, Nat.reduceLeDiff, reduceIte]
    exact ⟨trivial, trivial, rfl, by omega⟩
  rintro q e m ⟨g0, g1, g5, hq⟩
  by_cases hlt : q < l.length
  · have hk := List.getElem?_eq_getElem hlt
    simp only [go_sem, Nat.reduceEqDiff, Nat.reduceAdd, Nat.reduceLT, Nat.reduceLeDiff, reduceIte, g0, g1, g5, dec_lt hlt, Ps_idx hk, eqP_iff.2 rfl, wrap_n1 q (by omega)]
    refine Nx_of (q + 1) (by first | omega | (simp; omega)) ?_
    simp only [go_sem, Nat.reduceEqDiff, Nat.reduceAdd, Nat.reduceLT, Nat.reduceLeDiff, reduceIte, g0, g1]
    exact ⟨trivial, trivial, trivial, by omega⟩
  · simp only [go_sem, Nat.reduceEqDiff, Nat.reduceAdd, Nat.reduceLT, Nat.reduceLeDiff, reduceIte, g0, g1, g5, dec_ge (show l.length ≤ q by omega)]
theorem sameContract_ok (c : Ct) (h1 : c.st.length < 1073741824) (h2 : c.ti.length < 1073741824) : RV ft 54 [encC c, encC c] (.bool true) := by
  refine RV_of ft54 rfl ?_
  simp only [c54, r54]
  simp only [go_sem, Nat.reduceEqDiff, Nat.reduceAdd, Nat.reduceLT, Nat.reduceLeDiff, reduceIte, bne_self_eq_false]
  refine WL_inv (α := Nat) (fun q e mm => e 2 = .ptr 0 0 0 ∧ e 3 = .ptr 1 0 0 ∧ e 5 = I64 q ∧ q ≤ c.st.length ∧ mm = ⟨[.live [encC c] 9, .live [encC c] 9], []⟩) (fun q => c.st.length - q) 0 ?_ ?_
  · simp only [go_sem, Nat.reduceEqDiff, Nat.reduceAdd, Nat.reduceLT, Nat.reduceLeDiff, reduceIte]
    exact ⟨trivial, trivial, rfl, by omega, trivial⟩
  rintro q e m ⟨g2, g3, g5, hq, rfl⟩
  by_cases hlt : q < c.st.length
  · have hk := List.getElem?_eq_getElem hlt
    simp only [go_sem, Nat.reduceEqDiff, Nat.reduceAdd, Nat.reduceLT, Nat.reduceLeDiff, reduceIte, g2, g3, g5, dec_lt hlt, Is_idx hk, bne_self_eq_false, wrap_n1 q (by omega)]
    refine Nx_of (q + 1) (by first | omega | (simp; omega)) ?_
    simp only [go_sem, Nat.reduceEqDiff, Nat.reduceAdd, Nat.reduceLT, Nat.reduceLeDiff, reduceIte, g2, g3]
    exact ⟨trivial, trivial, trivial, by omega, trivial⟩
  simp only [go_sem, Nat.reduceEqDiff, Nat.reduceAdd, Nat.reduceLT, Nat.reduceLeDiff, reduceIte, g2, g3, g5, dec_ge (show c.st.length ≤ q by omega)]
  refine WL_inv (α := Nat) (fun q e mm => e 2 = .ptr 0 0 0 ∧ e 3 = .ptr 1 0 0 ∧ e 6 = I64 q ∧ q ≤ c.ti.length ∧ mm = ⟨[.live [encC c] 9, .live [encC c] 9], []⟩) (fun q => c.ti.length - q) 0 ?_ ?_
  · simp only [go_sem, Nat.reduceEqDiff, Nat.reduceAdd, Nat.reduceLT, Nat.reduceLeDiff, reduceIte, g2, g3]
    exact ⟨trivial, trivial, rfl, by omega, trivial⟩
  rintro q e m ⟨g2, g3, g6, hq, rfl⟩
  by_cases hlt : q < c.ti.length
  · have hk := List.getElem?_eq_getElem hlt
    simp only [go_sem, Nat.reduceEqDiff, Nat.reduceAdd, Nat.reduceLT, Nat.reduceLeDiff, reduceIte, g2, g3, g6, dec_lt hlt, Ts_idx hk, eqT_iff.2 rfl, wrap_n1 q (by omega)]
    refine Nx_of (q + 1) (by first | omega | (simp; omega)) ?_
    simp only [go_sem, Nat.reduceEqDiff, Nat.reduceAdd, Nat.reduceLT, Nat.reduceLeDiff, reduceIte, g2, g3]
    exact ⟨trivial, trivial, trivial, by omega, trivial⟩
  · simp only [go_sem, Nat.reduceEqDiff, Nat.reduceAdd, Nat.reduceLT, Nat.reduceLeDiff, reduceIte, g2, g3, g6, dec_ge (show c.ti.length ≤ q by omega)]
theorem same_ok (b : Bk) (h : NF b) : RV ft 25 [encB b, encB b] (.bool true) := by
  refine RV_of ft25 rfl ?_
  simp only [c25, r25]
  have hl := h.c
  simp only [go_sem, Nat.reduceEqDiff, Nat.reduceAdd, Nat.reduceLT, Nat.reduceLeDiff, reduceIte, bne_self_eq_false, WB53, WVH_eq (sameReports_ok b.rs h.r), true_and]
  refine WL_inv (α := Nat) (fun q e mm => e 2 = .ptr 0 0 0 ∧ e 3 = .ptr 1 0 0 ∧ e 5 = I64 q ∧ q ≤ b.cs.length ∧ mm = ⟨[.live [encB b] 3, .live [encB b] 3], []⟩) (fun q => b.cs.length - q) 0 ?_ ?_
  · simp only [go_sem, Nat.reduceEqDiff, Nat.reduceAdd, Nat.reduceLT, Nat.reduceLeDiff, reduceIte]
    exact ⟨trivial, trivial, rfl, by omega, trivial⟩
  rintro q e m ⟨g2, g3, g5, hq, rfl⟩
  by_cases hlt : q < b.cs.length
  · have hk := List.getElem?_eq_getElem hlt
    have hs := h.s _ (List.mem_of_getElem? hk)
    simp only [go_sem, Nat.reduceEqDiff, Nat.reduceAdd, Nat.reduceLT, Nat.reduceLeDiff, reduceIte, g2, g3, g5, dec_lt hlt, Cs_idx hk, WB54, WVH_eq (sameContract_ok _ hs.1 hs.2), true_and, wrap_n1 q (by omega)]
    refine Nx_of (q + 1) (by first | omega | (simp; omega)) ?_
    simp only [go_sem, Nat.reduceEqDiff, Nat.reduceAdd, Nat.reduceLT, Nat.reduceLeDiff, reduceIte, g2, g3]
    exact ⟨trivial, trivial, trivial, by omega, trivial⟩
  · simp only [go_sem, Nat.reduceEqDiff, Nat.reduceAdd, Nat.reduceLT, Nat.reduceLeDiff, reduceIte, g2, g3, g5, dec_ge (show b.cs.length ≤ q by omega)]
theorem farM_le {b : Bk} (h : farM b = false) : b.cs.length ≤ 1000 ∧ b.rs.length ≤ 1000 ∧ ∀ c ∈ b.cs, c.st.length ≤ 1000 ∧ c.ti.length ≤ 1000 := by
  unfold farM at h
  simp only [Bool.or_eq_false_iff, decide_eq_false_iff_not, List.any_eq_false, farC, Bool.or_eq_true, decide_eq_true_eq, not_or] at h
  exact ⟨by omega, by omega, fun c hc => by have := h.2 c hc; omega⟩
theorem ShareWeeks_run (b : Bk) (x : Ak) : RV ft 10 [encB b, encX x] (.bool true) := by
  refine RV_of ft10 rfl ?_
  simp only [c10, r10]
  cases h1 : farM b
  case true => simp only [go_sem, Nat.reduceEqDiff, Nat.reduceAdd, Nat.reduceLT, Nat.reduceLeDiff, reduceIte, WB14, WVH_eq (Far_ok b), true_and, h1, WB16, WVH_eq works_ok]
  have hF := farM_NF h1
  obtain ⟨l1, l2, l3⟩ := farM_le h1
  simp only [go_sem, Nat.reduceEqDiff, Nat.reduceAdd, Nat.reduceLT, Nat.reduceLeDiff, reduceIte, WB14, WVH_eq (Far_ok b), true_and, h1, WF22, WVH_eq (Copy_ok b l1 l2 l3), WB31, WVH_eq (Check_ok b hF), WB15, WVH_eq (CheckR_ok b hF), bne_self_eq_false, WB19, WVH_eq (Week_ok b hF x.f x.w), WB32, WVH_eq (WeekR_ok b hF x.f x.w), WB23, WVH_eq (Due_ok b hF x.f x.w), WB33, WVH_eq (DueR_ok b hF x.f x.w), WB17, WVH_eq (Total_ok b hF x.w), WB34, WVH_eq (TotalR_ok b hF x.w), eqA_self, Bool.false_eq_true, if_false, WB25, WVH_eq (same_ok b hF), WB16, WVH_eq works_ok]
theorem ShareReaches_run (b : Bk) (x : Ak) : RV ft 13 [encB b, encX x] (.bool true) := by
  refine RV_of ft13 rfl ?_
  simp only [c13, r13]
  cases h1 : farM b
  case true => simp only [go_sem, Nat.reduceEqDiff, Nat.reduceAdd, Nat.reduceLT, Nat.reduceLeDiff, reduceIte, WB14, WVH_eq (Far_ok b), true_and, h1, WB16, WVH_eq works_ok]
  have hF := farM_NF h1
  obtain ⟨l1, l2, l3⟩ := farM_le h1
  simp only [go_sem, Nat.reduceEqDiff, Nat.reduceAdd, Nat.reduceLT, Nat.reduceLeDiff, reduceIte, WB14, WVH_eq (Far_ok b), true_and, h1, WF22, WVH_eq (Copy_ok b l1 l2 l3), WB30, WVH_eq (Reach_ok b hF x.f x.w x.s), WB37, WVH_eq (ReachR_ok b hF x.f x.w x.s), WB16, WVH_eq works_ok]
end Go.Ab.T
end
