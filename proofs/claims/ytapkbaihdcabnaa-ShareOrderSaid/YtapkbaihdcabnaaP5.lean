/-
  A part of the proofs over this seat.
  (The texts KsM4 KsM5 KsK11 KsK12, one behind the other.)
-/
import Derived.Test.YtapkbaihdcabnaaP4
set_option linter.unusedSimpArgs false
set_option linter.unusedVariables false
set_option linter.unusedSectionVars false
section
namespace Go.Ab.T
theorem findC_app (f : Int) : ∀ (p q : List Ct), findC f (p ++ q) = (findC f p).or (findC f q)
  | [], q => rfl
  | c :: p, q => by
    show (if (c.film == f) = true then some c else findC f (p ++ q)) = Option.or (if (c.film == f) = true then some c else findC f p) (findC f q)
    split
    · rfl
    · exact findC_app f p q
theorem once_find : ∀ (l p : List Ct), onceF p l = true → ∀ c ∈ l, findC c.film (p ++ l) = some c
  | [], p, _, c, h => by cases h
  | x :: l, p, ho, c, h => by
    have ho : ((findC x.film p).isNone && onceF (p ++ [x]) l) = true := ho
    rw [Bool.and_eq_true] at ho
    rcases List.mem_cons.1 h with rfl | h
    · rw [findC_app, Option.isNone_iff_eq_none.1 ho.1]
      show (if (c.film == c.film) = true then some c else findC c.film l) = some c
      simp
    · have := once_find l (p ++ [x]) ho.2 c h
      simpa using this
theorem BV.find {b : Bk} (hb : BV b) {c : Ct} (hc : c ∈ b.cs) : findC c.film b.cs = some c := once_find b.cs [] hb.co c hc
theorem weekM_some {b : Bk} {f w : Int} {c : Ct} (h0 : chk b = 0) (hs : findC f b.cs = some c) (h1 : c.fi ≤ w) (h2 : w ≤ c.la) : weekM b f w = (acc b c w, 0) := by
  unfold weekM
  rw [if_pos h0, hs]
  exact if_pos (inR_iff.2 ⟨h1, h2⟩)
theorem dueMM_some {b : Bk} {f w : Int} {c : Ct} (h0 : chk b = 0) (hs : findC f b.cs = some c) (h1 : 0 ≤ w) (h2 : w ≤ 99) : dueMM b f w = (dueM b c w, 0) := by
  unfold dueMM
  rw [if_pos h0, hs]
  exact if_pos (inR_iff.2 ⟨h1, h2⟩)
end Go.Ab.T
end

section
namespace Go.Ab.T
theorem pickG_none {p : Rp → Bool} : ∀ {l : List Rp} {a : Option Rp}, pickG p a l = none → a = none ∧ ∀ r ∈ l, p r = false
  | [], a, h => ⟨h, fun r hr => by cases hr⟩
  | x :: l, a, h => by
    have h : pickG p (if p x = true then better a x else a) l = none := h
    obtain ⟨h1, h2⟩ := pickG_none h
    cases hp : p x
    · rw [hp] at h1
      exact ⟨h1, fun r hr => by rcases List.mem_cons.1 hr with rfl | hr; exact hp; exact h2 r hr⟩
    · rw [hp, if_pos rfl] at h1
      unfold better at h1
      split at h1
      · cases h1
      · split at h1 <;> cases h1
/-! ### With more takings no share is less -/
/-! ### One more report -/
theorem clsh_cons' (p : List Rp) (r : Rp) (q : List Rp) : clsh p (r :: q) = (p.any (fun x => x.id == r.id && !eqR x r) || clsh (p ++ [r]) q) := rfl
theorem chk_eq0 {b : Bk} (h1 : bkOK b = true) (h2 : rsOK b.cs b.rs = true) (h3 : clsh [] b.rs = false) : chk b = 0 := by
  unfold chk; rw [h1, h2, h3]; rfl
theorem chk_parts {b : Bk} (h : chk b = 0) : bkOK b = true ∧ rsOK b.cs b.rs = true ∧ clsh [] b.rs = false := by
  unfold chk at h
  cases h1 : bkOK b
  · rw [h1] at h; cases h
  · rw [h1, if_pos rfl] at h
    cases h2 : rsOK b.cs b.rs
    · rw [h2] at h; cases h
    · cases h3 : clsh [] b.rs
      · exact ⟨rfl, rfl, rfl⟩
      · rw [h2, h3] at h; cases h
end Go.Ab.T
end

section
namespace Go.Ab.T
set_option maxRecDepth 8000
set_option maxHeartbeats 4000000
theorem RV_of_WR {f : FuncId} {as : List AV} {v : AV} (h : WR ft (.f f) as .nil fun v' m => snap m dep v' = v) : RV ft f as v := by
  obtain ⟨n, p, h1, h2⟩ := h
  exact ⟨n, by simp only [callV, h1, Option.map_some, h2]⟩
/-- A slice that is built by appending, whatever else is. -/
def AppV (T : Nat) (es : List AV) (v : AV) (toks : List (Nat × Nat)) : Prop := (es = [] ∧ v = .sl [] .tight) ∨ (es ≠ [] ∧ ∃ t, v = .sl es (.at t) ∧ toks[t]? = some (es.length, T))
/-- The tokens of other types are as they were. -/
def TkK (T : Nat) (toks toks' : List (Nat × Nat)) : Prop := ∀ (t n T' : Nat), T' ≠ T → toks[t]? = some (n, T') → toks'[t]? = some (n, T')
theorem AppV.keep {T T2 : Nat} {es : List AV} {v : AV} {toks toks' : List (Nat × Nat)} (h : AppV T es v toks) (hne : T ≠ T2) (hk : TkK T2 toks toks') : AppV T es v toks' := by
  rcases h with h | ⟨h1, t, h2, h3⟩
  · exact .inl h
  · exact .inr ⟨h1, t, h2, hk t _ _ hne h3⟩
theorem AppV.sl {T : Nat} {es : List AV} {v : AV} {toks : List (Nat × Nat)} (h : AppV T es v toks) : ∃ tk, v = .sl es tk := by
  rcases h with ⟨rfl, rfl⟩ | ⟨_, t, rfl, _⟩ <;> exact ⟨_, rfl⟩
theorem AppV.app {T : Nat} {es : List AV} {v : AV} {toks : List (Nat × Nat)} (h : AppV T es v toks) {y : AV} {tk : Tk} {sz bytes : Nat} {blks : List Blk} {K : AV × Mem → Prop}
    (hs : ∀ e ∈ es, e.cells.length = sz) (hy : y.cells.length = sz) (hl : (es.length + 1) * (bytes + 1) ≤ limit)
    (hk : ∀ v' toks', AppV T (es ++ [y]) v' toks' → TkK T toks toks' → K (v', ⟨blks, toks'⟩)) : @OptH _ (appendAt ⟨blks, toks⟩ false v (.sl [y] tk) T sz bytes) ⟨K⟩ := by
  have h1 : hdSz [y] sz = true := by simp [hdSz, hy]
  have h2 : hdSz es sz = true := by
    cases es with
    | nil => rfl
    | cons e r => simp [hdSz, hs e (by simp)]
  rcases h with ⟨rfl, rfl⟩ | ⟨hne, t, rfl, ht⟩
  · simp only [appendAt, Mem.elems, h1, h2, OptH, List.length_cons, List.length_nil, List.nil_append, appTk]
    simp only [List.length_nil] at hl
    rw [if_neg (by simp), if_pos ⟨by simpa using hl, trivial⟩]
    refine hk _ _ (.inr ⟨by simp, toks.length, rfl, by simp⟩) fun t n T' hT ht => ?_
    rw [List.getElem?_append_left (List.getElem?_eq_some_iff.1 ht).1]; exact ht
  · simp only [appendAt, Mem.elems, h1, h2, OptH, List.length_cons, List.length_nil, appTk]
    rw [if_neg (by simp), if_pos ⟨by simpa using hl, trivial⟩]
    have : es.length ≠ 0 := by simpa using hne
    simp only [Bool.false_eq_true, if_false, Nat.zero_add, Nat.succ_ne_zero]
    rw [if_pos ⟨ht, this⟩]
    have hlt := (List.getElem?_eq_some_iff.1 ht).1
    refine hk _ _ (.inr ⟨by simp, t, rfl, by simp [hlt]⟩) fun t' n T' hT ht' => ?_
    have hne' : t ≠ t' := by rintro rfl; rw [ht] at ht'; cases ht'; exact hT rfl
    rw [List.getElem?_set_ne hne']; exact ht'
theorem AppV.copy {T : Nat} {ys : List AV} {toks : List (Nat × Nat)} {tk : Tk} {sz bytes : Nat} {blks : List Blk} {K : AV × Mem → Prop}
    (hs : hdSz ys sz = true) (hl : ys.length * (bytes + 1) ≤ limit)
    (hk : ∀ v' toks', AppV T ys v' toks' → (∀ T2, T ≠ T2 → TkK T toks toks') → (∀ (t : Nat) (x : Nat × Nat), toks[t]? = some x → toks'[t]? = some x) → K (v', ⟨blks, toks'⟩)) : @OptH _ (appendAt ⟨blks, toks⟩ false (.sl [] .tight) (.sl ys tk) T sz bytes) ⟨K⟩ := by
  simp only [appendAt, Mem.elems, hs, OptH, List.length_nil, Nat.zero_add, appTk, List.nil_append]
  rw [if_neg (by simp), if_pos ⟨by simpa using hl, rfl⟩]
  by_cases hy : ys = []
  · subst hy
    exact hk _ _ (.inl ⟨rfl, rfl⟩) (fun _ _ t n T' _ h => h) fun t x h => h
  · have : ys.length ≠ 0 := by simpa using hy
    simp only [Bool.false_eq_true, if_false]
    rw [if_neg this]
    refine hk _ _ (.inr ⟨hy, toks.length, rfl, by simp⟩) (fun _ _ t n T' _ h => ?_) fun t x h => ?_ <;>
    · rw [List.getElem?_append_left (List.getElem?_eq_some_iff.1 h).1]; exact h
theorem AppV.stay {T : Nat} {es : List AV} {v : AV} {toks toks' : List (Nat × Nat)} (h : AppV T es v toks) (hk : ∀ (t : Nat) (x : Nat × Nat), toks[t]? = some x → toks'[t]? = some x) : AppV T es v toks' := by
  rcases h with h | ⟨h1, t, h2, h3⟩
  · exact .inl h
  · exact .inr ⟨h1, t, h2, hk _ _ h3⟩
theorem apart_psl (a b c : Nat) (es : List AV) (tk : Tk) : apart (.ptr a b c) (.sl es tk) = true := rfl
attribute [go_sem] apart_psl
theorem wC3 (c : Ct) (v : AV) : writeCells (encC c) 3 [v] = some (.agg [I64 c.film, I64 c.fi, I64 c.la, v, encTs c.ti, I64 c.nut, I64 c.ov, I64 c.fl, I64 c.gu]) := rfl
/-- A contract whose slices are as they were appended. -/
structure CT where
  c : Ct
  k1 : Tk
  k2 : Tk
def encCT (x : CT) : AV := .agg [I64 x.c.film, I64 x.c.fi, I64 x.c.la, .sl (x.c.st.map I64) x.k1, .sl (x.c.ti.map encT) x.k2, I64 x.c.nut, I64 x.c.ov, I64 x.c.fl, I64 x.c.gu]
theorem snCT (m : Mem) (q : Nat) (x : CT) : snap m (q + 4) (encCT x) = encC x.c := by
  show AV.agg [I64 x.c.film, I64 x.c.fi, I64 x.c.la, .sl ((x.c.st.map I64).map (snap m (q + 2))) .unk, .sl ((x.c.ti.map encT).map (snap m (q + 2))) .unk, I64 x.c.nut, I64 x.c.ov, I64 x.c.fl, I64 x.c.gu] = _
  rw [List.map_map, List.map_map, show snap m (q + 2) ∘ I64 = I64 from funext fun _ => rfl, show snap m (q + 2) ∘ encT = encT from funext fun t => snT m q t]; rfl
/-- Books as Copy makes them. -/
def encBT (tax : Int) (T : List CT) (kc : Tk) (rs : List Rp) (kr : Tk) : AV := .agg [I64 tax, .sl (T.map encCT) kc, .sl (rs.map encR) kr]
theorem snBT (m : Mem) (q : Nat) (tax : Int) (T : List CT) (kc : Tk) (rs : List Rp) (kr : Tk) : snap m (q + 6) (encBT tax T kc rs kr) = encB ⟨tax, T.map CT.c, rs⟩ := by
  show AV.agg [I64 tax, .sl ((T.map encCT).map (snap m (q + 4))) .unk, .sl ((rs.map encR).map (snap m (q + 4))) .unk] = _
  rw [List.map_map, List.map_map, show snap m (q + 4) ∘ encCT = encC ∘ CT.c from funext fun x => snCT m q x, show snap m (q + 4) ∘ encR = encR from funext fun t => snR m (q + 2) t]
  show _ = AV.agg [I64 tax, .sl ((T.map CT.c).map encC) .unk, .sl (rs.map encR) .unk]
  rw [List.map_map]
theorem cellsCT (T : List CT) : ∀ e ∈ T.map encCT, e.cells.length = 9 := fun e he => by
  obtain ⟨x, _, rfl⟩ := List.mem_map.1 he; rfl
theorem hdR (l : List Rp) : hdSz (l.map encR) 6 = true := hdSz_map' encR 6 l fun _ => rfl
theorem Copy_run (b : Bk) (h1 : b.cs.length ≤ 1000) (h2 : b.rs.length ≤ 1000) (h3 : ∀ c ∈ b.cs, c.st.length ≤ 1000 ∧ c.ti.length ≤ 1000) (K : AV → Mem → Prop)
    (hK : ∀ T kc kr bl toks, T.map CT.c = b.cs → AppV 39 (T.map encCT) (.sl (T.map encCT) kc) toks → AppV 52 (b.rs.map encR) (.sl (b.rs.map encR) kr) toks → K (encBT b.tax T kc b.rs kr) ⟨bl, toks⟩) : WR ft (.f 22) [encB b] .nil K := by
  rw [WR_f ft22 rfl]
  simp only [c22, r22]
  simp only [go_sem, Nat.reduceEqDiff, Nat.reduceAdd, Nat.reduceLT, Nat.reduceLeDiff, reduceIte]
  unfold encRs
  refine AppV.copy (hdR b.rs) (by rw [List.length_map]; unfold limit; omega) fun vr toks1 hvr _ _ => ?_
  obtain ⟨kr, rfl⟩ := hvr.sl
  simp only [go_sem, Nat.reduceEqDiff, Nat.reduceAdd, Nat.reduceLT, Nat.reduceLeDiff, reduceIte]
  refine WL_inv (α := Nat × List Ct × List CT × AV) (fun q e mm => e 1 = .ptr 0 0 0 ∧ e 2 = .ptr 1 0 0 ∧ e 3 = .ptr 2 0 0 ∧ e 4 = I64 q.1 ∧ b.cs.drop q.1 = q.2.1 ∧ q.2.2.1.map CT.c ++ q.2.1 = b.cs ∧ q.2.2.1.length = q.1 ∧ ∃ bl toks, mm = ⟨.live [encB b] 3 :: .live [.agg [I64 0, .sl [] .tight, .sl [] .tight]] 3 :: .live [.agg [I64 b.tax, q.2.2.2, .sl (b.rs.map encR) kr]] 3 :: bl, toks⟩ ∧ AppV 39 (q.2.2.1.map encCT) q.2.2.2 toks ∧ AppV 52 (b.rs.map encR) (.sl (b.rs.map encR) kr) toks) (fun q => q.2.1.length) (0, b.cs, [], .sl [] .tight) ?_ ?_
  · simp only [go_sem, Nat.reduceEqDiff, Nat.reduceAdd, Nat.reduceLT, Nat.reduceLeDiff, reduceIte]
    exact ⟨trivial, trivial, trivial, rfl, trivial, trivial, trivial, _, _, rfl, .inl ⟨rfl, rfl⟩, hvr⟩
  rintro ⟨k, r, T, v⟩ e m ⟨g1, g2, g3, g4, hd, hq, hT, bl, toks, rfl, hv, hvr⟩
  dsimp only at g4 hd hq hT hv
  obtain ⟨kc, rfl⟩ := hv.sl
  cases r with
  | nil =>
    have h4 := drop_nil hd
    rw [List.append_nil] at hq
    simp only [go_sem, Nat.reduceEqDiff, Nat.reduceAdd, Nat.reduceLT, Nat.reduceLeDiff, reduceIte, g1, g2, g3, g4, dec_ge h4]
    exact hK T kc kr _ _ hq hv hvr
  | cons x r =>
    obtain ⟨hk, hd2, hlt⟩ := drop_cons hd
    have hx := h3 x (List.mem_of_getElem? hk)
    simp only [go_sem, Nat.reduceEqDiff, Nat.reduceAdd, Nat.reduceLT, Nat.reduceLeDiff, reduceIte, g1, g2, g3, g4, dec_lt hlt, Cs_idx hk]
    unfold encIs
    refine AppV.copy (hdSz_map' I64 1 _ fun _ => rfl) (by rw [List.length_map]; unfold limit; omega) fun v1 toks1 hv1 _ hs1 => ?_
    obtain ⟨k1, rfl⟩ := hv1.sl
    simp only [go_sem, Nat.reduceEqDiff, Nat.reduceAdd, Nat.reduceLT, Nat.reduceLeDiff, reduceIte, g1, g2, g3]
    unfold encTs
    refine AppV.copy (hdSz_map' encT 2 _ fun _ => rfl) (by rw [List.length_map]; unfold limit; omega) fun v2 toks2 hv2 _ hs2 => ?_
    obtain ⟨k2, rfl⟩ := hv2.sl
    have hE : AV.agg [I64 x.film, I64 x.fi, I64 x.la, .sl (x.st.map I64) k1, .sl (x.ti.map encT) k2, I64 x.nut, I64 x.ov, I64 x.fl, I64 x.gu] = encCT ⟨x, k1, k2⟩ := rfl
    have hEc : (encCT ⟨x, k1, k2⟩).cells = [I64 x.film, I64 x.fi, I64 x.la, .sl (x.st.map I64) k1, .sl (x.ti.map encT) k2, I64 x.nut, I64 x.ov, I64 x.fl, I64 x.gu] := rfl
    simp only [go_sem, Nat.reduceEqDiff, Nat.reduceAdd, Nat.reduceLT, Nat.reduceLeDiff, reduceIte, g1, g2, g3, wC3, hE, hEc]
    refine ((hv.stay hs1).stay hs2).app (y := encCT ⟨x, k1, k2⟩) (sz := 9) (bytes := 104) (cellsCT T) rfl (by rw [List.length_map]; unfold limit; omega) fun v3 toks3 hv3 ht3 => ?_
    have hmap : T.map encCT ++ [encCT ⟨x, k1, k2⟩] = (T ++ [(⟨x, k1, k2⟩ : CT)]).map encCT := by simp
    rw [hmap] at hv3
    obtain ⟨kc3, rfl⟩ := hv3.sl
    simp only [go_sem, Nat.reduceEqDiff, Nat.reduceAdd, Nat.reduceLT, Nat.reduceLeDiff, reduceIte, g1, g2, g3, g4, wrap_n1 k (by omega)]
    refine Nx_of (k + 1, r, T ++ [(⟨x, k1, k2⟩ : CT)], .sl ((T ++ [(⟨x, k1, k2⟩ : CT)]).map encCT) kc3) (by simp) ?_
    simp only [go_sem, Nat.reduceEqDiff, Nat.reduceAdd, Nat.reduceLT, Nat.reduceLeDiff, reduceIte, g1, g2, g3]
    exact ⟨trivial, trivial, trivial, trivial, hd2, by rw [← hq]; simp, by simp [hT], _, _, rfl, hv3, ((hvr.stay hs1).stay hs2).keep (by decide) ht3⟩
theorem Copy_ok (b : Bk) (h1 : b.cs.length ≤ 1000) (h2 : b.rs.length ≤ 1000) (h3 : ∀ c ∈ b.cs, c.st.length ≤ 1000 ∧ c.ti.length ≤ 1000) : RV ft 22 [encB b] (encB b) :=
  RV_of_WR (Copy_run b h1 h2 h3 _ fun T kc kr bl toks hT _ _ => by
    rw [show dep = 6 + 6 from rfl, snBT, hT])
end Go.Ab.T
end

section
namespace Go.Ab.T
set_option maxRecDepth 8000
set_option maxHeartbeats 4000000
structure Ak where
  f : Int
  w : Int
  s : Int
def encX (x : Ak) : AV := .agg [I64 x.f, I64 x.w, I64 x.s]
theorem XCells (x : Ak) : (encX x).cells = [I64 x.f, I64 x.w, I64 x.s] := rfl
theorem snX (m : Mem) (q : Nat) (x : Ak) : snap m (q + 2) (encX x) = encX x := rfl
theorem hotX (q : Nat) (x : Ak) : hot (q + 2) (encX x) = false := rfl
attribute [go_sem] XCells snX hotX
def validM (b : Bk) (f w : Int) : Bool := !farM b && (chk b == 0 && (match findC f b.cs with | some c => inR w c.fi c.la | none => false))
theorem valid_ok (b : Bk) (f w s : Int) : RV ft 20 [encB b, .agg [I64 f, I64 w, I64 s]] (.bool (validM b f w)) := by
  refine RV_of ft20 rfl ?_
  simp only [c20, r20]
  unfold validM
  cases h1 : farM b
  case true => simp only [go_sem, Nat.reduceEqDiff, Nat.reduceAdd, Nat.reduceLT, Nat.reduceLeDiff, reduceIte, WB14, WVH_eq (Far_ok b), true_and, h1]
  have hF := farM_NF h1
  by_cases h0 : chk b = 0
  case neg =>
    have e0 : (chk b == 0) = false := by simpa using h0
    simp only [go_sem, Nat.reduceEqDiff, Nat.reduceAdd, Nat.reduceLT, Nat.reduceLeDiff, reduceIte, WB14, WVH_eq (Far_ok b), true_and, h1, WB15, WVH_eq (CheckR_ok b hF), ne0 h0]
    rw [e0]; rfl
  have hC := CheckR_ok b hF
  rw [h0] at hC
  have hf := Contract_ok b f hF.c
  rw [h0]
  cases hs : findC f b.cs with
  | none =>
    rw [hs] at hf
    simp only [go_sem, Nat.reduceEqDiff, Nat.reduceAdd, Nat.reduceLT, Nat.reduceLeDiff, reduceIte, WB14, WVH_eq (Far_ok b), true_and, h1, WB15, WVH_eq hC, show ((0 : Int) != 0) = false from rfl, WB21, WVH_eq hf, Option.getD, Option.isSome]
  | some c =>
    rw [hs] at hf
    dsimp only
    unfold inR
    cases c1 : decide (c.fi ≤ w)
    · simp only [go_sem, Nat.reduceEqDiff, Nat.reduceAdd, Nat.reduceLT, Nat.reduceLeDiff, reduceIte, WB14, WVH_eq (Far_ok b), true_and, h1, WB15, WVH_eq hC, show ((0 : Int) != 0) = false from rfl, WB21, WVH_eq hf, Option.getD, Option.isSome, c1]
    · simp only [go_sem, Nat.reduceEqDiff, Nat.reduceAdd, Nat.reduceLT, Nat.reduceLeDiff, reduceIte, WB14, WVH_eq (Far_ok b), true_and, h1, WB15, WVH_eq hC, show ((0 : Int) != 0) = false from rfl, WB21, WVH_eq hf, Option.getD, Option.isSome, c1]
theorem validM_iff {b : Bk} {f w : Int} (h : validM b f w = true) : farM b = false ∧ chk b = 0 ∧ ∃ c, findC f b.cs = some c ∧ c.fi ≤ w ∧ w ≤ c.la := by
  unfold validM at h
  simp only [Bool.and_eq_true, Bool.not_eq_true', beq_iff_eq] at h
  refine ⟨h.1, h.2.1, ?_⟩
  have h3 := h.2.2
  split at h3
  · rename_i c hc; exact ⟨c, hc, inR_iff.1 h3⟩
  · cases h3
theorem sameReports_ok (l : List Rp) (hl : l.length < 1073741824) : RV ft 53 [encRs l, encRs l] (.bool true) := by
  refine RV_of ft53 rfl ?_
  simp only [c53, r53]
  simp only [go_sem, Nat.reduceEqDiff, Nat.reduceAdd, Nat.reduceLT, Nat.reduceLeDiff, reduceIte, bne_self_eq_false]
  refine WL_inv (α := Nat) (fun q e mm => e 0 = encRs l ∧ e 1 = encRs l ∧ e 5 = I64 q ∧ q ≤ l.length) (fun q => l.length - q) 0 ?_ ?_
  · simp only [go_sem, Nat.reduceEqDiff, Nat.reduceAdd, Nat.reduceLT, Nat.reduceLeDiff, reduceIte]
    exact ⟨trivial, trivial, rfl, by omega⟩
  rintro q e m ⟨g0, g1, g5, hq⟩
  by_cases hlt : q < l.length
  · have hk := List.getElem?_eq_getElem hlt
    simp only [go_sem, Nat.reduceEqDiff, Nat.reduceAdd, Nat.reduceLT, Nat.reduceLeDiff, reduceIte, g0, g1, g5, dec_lt hlt, Rs_idx hk, eqR_iff.2 rfl, wrap_n1 q (by omega)]
    refine Nx_of (q + 1) (by first | omega | (simp; omega)) ?_
    simp only [go_sem, Nat.reduceEqDiff, Nat.reduceAdd, Nat.reduceLT, Nat.reduceLeDiff, reduceIte, g0, g1]
    exact ⟨trivial, trivial, trivial, by omega⟩
  · simp only [go_sem, Nat.reduceEqDiff, Nat.reduceAdd, Nat.reduceLT, Nat.reduceLeDiff, reduceIte, g0, g1, g5, dec_ge (show l.length ≤ q by omega)]
theorem sameContract_ok (c : Ct) (h1 : c.st.length < 1073741824) (h2 : c.ti.length < 1073741824) : RV ft 54 [encC c, encC c] (.bool true) := by
  refine RV_of ft54 rfl ?_
  simp only [c54, r54]
  simp only [go_sem, Nat.reduceEqDiff, Nat.reduceAdd, Nat.reduceLT, Nat.reduceLeDiff, reduceIte, bne_self_eq_false]
  refine WL_inv (α := Nat) (fun q e mm => e 2 = .ptr 0 0 0 ∧ e 3 = .ptr 1 0 0 ∧ e 5 = I64 q ∧ q ≤ c.st.length ∧ mm = ⟨[.live [encC c] 9, .live [encC c] 9], []⟩) (fun q => c.st.length - q) 0 ?_ ?_
  · simp only [go_sem, Nat.reduceEqDiff, Nat.reduceAdd, Nat.reduceLT, Nat.reduceLeDiff, reduceIte]
    exact ⟨trivial, trivial, rfl, by omega, trivial⟩
  rintro q e m ⟨g2, g3, g5, hq, rfl⟩
  by_cases hlt : q < c.st.length
  · have hk := List.getElem?_eq_getElem hlt
    simp only [go_sem, Nat.reduceEqDiff, Nat.reduceAdd, Nat.reduceLT, Nat.reduceLeDiff, reduceIte, g2, g3, g5, dec_lt hlt, Is_idx hk, bne_self_eq_false, wrap_n1 q (by omega)]
    refine Nx_of (q + 1) (by first | omega | (simp; omega)) ?_
    simp only [go_sem, Nat.reduceEqDiff, Nat.reduceAdd, Nat.reduceLT, Nat.reduceLeDiff, reduceIte, g2, g3]
    exact ⟨trivial, trivial, trivial, by omega, trivial⟩
  simp only [go_sem, Nat.reduceEqDiff, Nat.reduceAdd, Nat.reduceLT, Nat.reduceLeDiff, reduceIte, g2, g3, g5, dec_ge (show c.st.length ≤ q by omega)]
  refine WL_inv (α := Nat) (fun q e mm => e 2 = .ptr 0 0 0 ∧ e 3 = .ptr 1 0 0 ∧ e 6 = I64 q ∧ q ≤ c.ti.length ∧ mm = ⟨[.live [encC c] 9, .live [encC c] 9], []⟩) (fun q => c.ti.length - q) 0 ?_ ?_
  · simp only [go_sem, Nat.reduceEqDiff, Nat.reduceAdd, Nat.reduceLT, Nat.reduceLeDiff, reduceIte, g2, g3]
    exact ⟨trivial, trivial, rfl, by omega, trivial⟩
  rintro q e m ⟨g2, g3, g6, hq, rfl⟩
  by_cases hlt : q < c.ti.length
  · have hk := List.getElem?_eq_getElem hlt
    simp only [go_sem, Nat.reduceEqDiff, Nat.reduceAdd, Nat.reduceLT, Nat.reduceLeDiff, reduceIte, g2, g3, g6, dec_lt hlt, Ts_idx hk, eqT_iff.2 rfl, wrap_n1 q (by omega)]
    refine Nx_of (q + 1) (by first | omega | (simp; omega)) ?_
    simp only [go_sem, Nat.reduceEqDiff, Nat.reduceAdd, Nat.reduceLT, Nat.reduceLeDiff, reduceIte, g2, g3]
    exact ⟨trivial, trivial, trivial, by omega, trivial⟩
  · simp only [go_sem, Nat.reduceEqDiff, Nat.reduceAdd, Nat.reduceLT, Nat.reduceLeDiff, reduceIte, g2, g3, g6, dec_ge (show c.ti.length ≤ q by omega)]
theorem same_ok (b : Bk) (h : NF b) : RV ft 25 [encB b, encB b] (.bool true) := by
  refine RV_of ft25 rfl ?_
  simp only [c25, r25]
  have hl := h.c
  simp only [go_sem, Nat.reduceEqDiff, Nat.reduceAdd, Nat.reduceLT, Nat.reduceLeDiff, reduceIte, bne_self_eq_false, WB53, WVH_eq (sameReports_ok b.rs h.r), true_and]
  refine WL_inv (α := Nat) (fun q e mm => e 2 = .ptr 0 0 0 ∧ e 3 = .ptr 1 0 0 ∧ e 5 = I64 q ∧ q ≤ b.cs.length ∧ mm = ⟨[.live [encB b] 3, .live [encB b] 3], []⟩) (fun q => b.cs.length - q) 0 ?_ ?_
  · simp only [go_sem, Nat.reduceEqDiff, Nat.reduceAdd, Nat.reduceLT, Nat.reduceLeDiff, reduceIte]
    exact ⟨trivial, trivial, rfl, by omega, trivial⟩
  rintro q e m ⟨g2, g3, g5, hq, rfl⟩
  by_cases hlt : q < b.cs.length
  · have hk := List.getElem?_eq_getElem hlt
    have hs := h.s _ (List.mem_of_getElem? hk)
    simp only [go_sem, Nat.reduceEqDiff, Nat.reduceAdd, Nat.reduceLT, Nat.reduceLeDiff, reduceIte, g2, g3, g5, dec_lt hlt, Cs_idx hk, WB54, WVH_eq (sameContract_ok _ hs.1 hs.2), true_and, wrap_n1 q (by omega)]
    refine Nx_of (q + 1) (by first | omega | (simp; omega)) ?_
    simp only [go_sem, Nat.reduceEqDiff, Nat.reduceAdd, Nat.reduceLT, Nat.reduceLeDiff, reduceIte, g2, g3]
    exact ⟨trivial, trivial, trivial, by omega, trivial⟩
  · simp only [go_sem, Nat.reduceEqDiff, Nat.reduceAdd, Nat.reduceLT, Nat.reduceLeDiff, reduceIte, g2, g3, g5, dec_ge (show b.cs.length ≤ q by omega)]
theorem farM_le {b : Bk} (h : farM b = false) : b.cs.length ≤ 1000 ∧ b.rs.length ≤ 1000 ∧ ∀ c ∈ b.cs, c.st.length ≤ 1000 ∧ c.ti.length ≤ 1000 := by
  unfold farM at h
  simp only [Bool.or_eq_false_iff, decide_eq_false_iff_not, List.any_eq_false, farC, Bool.or_eq_true, decide_eq_true_eq, not_or] at h
  exact ⟨by omega, by omega, fun c hc => by have := h.2 c hc; omega⟩
end Go.Ab.T
end
