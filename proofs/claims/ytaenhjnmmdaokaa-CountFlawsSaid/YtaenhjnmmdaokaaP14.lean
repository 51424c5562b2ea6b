/-
  A part of the proofs over this seat.
  (The texts KcM5 KcK25 KcK26, one behind the other.)
-/
import Derived.Test.YtaenhjnmmdaokaaP9
import Derived.Test.YtaenhjnmmdaokaaP11
set_option linter.unusedSimpArgs false
set_option linter.unusedVariables false
set_option linter.unusedSectionVars false
section
namespace Go.Ab.T
/-! ### The reference's splits and truths -/
def splL : List Int → Int → List (List Int)
  | [], n => if n = 0 then [[]] else []
  | x :: r, n => (rg (min n x)).flatMap fun k => (splL r (n - k)).map (k :: ·)
theorem flatMap_len_le {α β : Type} (f : α → List β) (B : Nat) : ∀ (l : List α), (∀ x ∈ l, (f x).length ≤ B) → (l.flatMap f).length ≤ l.length * B
  | [], _ => by simp
  | a :: l, h => by
    rw [List.flatMap_cons, List.length_append, List.length_cons, Nat.add_mul]
    have h1 := h a (by simp)
    have h2 := flatMap_len_le f B l fun x hx => h x (by simp [hx])
    omega
theorem splL_len : ∀ (l : List Int) (n : Int), n ≤ 7 → (splL l n).length ≤ 8 ^ l.length
  | [], n, _ => by simp only [splL]; split <;> simp
  | x :: r, n, h => by
    simp only [splL]
    have h1 := flatMap_len_le (fun k => (splL r (n - k)).map (k :: ·)) (8 ^ r.length) (rg (min n x)) fun k hk => by
      have := mem_rg.1 hk
      rw [List.length_map]
      exact splL_len r (n - k) (by omega)
    have h2 : (rg (min n x)).length ≤ 8 := by unfold rg; rw [List.length_map, List.length_range]; omega
    rw [List.length_cons, Nat.pow_succ, Nat.mul_comm]
    exact Nat.le_trans h1 (Nat.mul_le_mul_right _ h2)
def leL : List Int → List Int → Prop
  | [], [] => True
  | a :: x, b :: l => (0 ≤ a ∧ a ≤ b) ∧ leL x l
  | _, _ => False
theorem leL_sum : ∀ {x l : List Int}, leL x l → 0 ≤ x.sum
  | [], [], _ => by simp
  | a :: x, b :: l, h => by
    have := leL_sum h.2
    have := h.1.1
    simp only [List.sum_cons]; omega
theorem mem_splL : ∀ {l : List Int} {n : Int} {x : List Int}, x ∈ splL l n ↔ leL x l ∧ x.sum = n
  | [], n, x => by
    simp only [splL]
    cases x with
    | nil =>
      simp only [leL, List.sum_nil, true_and]
      by_cases h : n = 0
      · rw [if_pos h]; simp [h]
      · rw [if_neg h]; simp; omega
    | cons a x => simp only [leL, false_and, iff_false]; split <;> simp
  | b :: l, n, x => by
    simp only [splL, List.mem_flatMap, List.mem_map]
    constructor
    · rintro ⟨k, hk, y, hy, rfl⟩
      have h1 := mem_rg.1 hk
      obtain ⟨h2, h3⟩ := mem_splL.1 hy
      exact ⟨⟨by omega, h2⟩, by rw [List.sum_cons, h3]; omega⟩
    · intro ⟨h1, h2⟩
      cases x with
      | nil => simp [leL] at h1
      | cons a y =>
        rw [List.sum_cons] at h2
        have h3 := leL_sum h1.2
        have h4 := h1.1
        exact ⟨a, mem_rg.2 (by omega), y, mem_splL.2 ⟨h1.2, by omega⟩, rfl⟩
theorem leL_iff : ∀ {x l : List Int}, l.length ≤ 3 → (leL x l ↔ x.length = l.length ∧ (toV x).nn ∧ (toV x).le (toV l)) := by
  intro x l h3
  match l, h3 with
  | [], _ => cases x with
    | nil => simp [leL, toV, V3.nn, V3.le]
    | cons a x => simp [leL]
  | [b], _ => match x with
    | [] => simp [leL]
    | [a] => simp [leL, toV, V3.nn, V3.le]
    | a :: a' :: x => simp [leL]
  | [b, b'], _ => match x with
    | [] => simp [leL]
    | [a] => simp [leL]
    | [a, a'] => simp [leL, toV, V3.nn, V3.le]; omega
    | a :: a' :: a'' :: x => simp [leL]
  | [b, b', b''], _ => match x with
    | [] => simp [leL]
    | [a] => simp [leL]
    | [a, a'] => simp [leL]
    | [a, a', a''] => simp [leL, toV, V3.nn, V3.le]; omega
    | a :: a' :: a'' :: a''' :: x => simp [leL]
def subL (a b : List Int) : List Int := List.zipWith (· - ·) a b
theorem subL_len {a b : List Int} (h : b.length = a.length) : (subL a b).length = a.length := by simp [subL, h]
theorem toV_subL {a b : List Int} (h : b.length = a.length) (h3 : a.length ≤ 3) : toV (subL a b) = (toV a).sub (toV b) := by
  match a, b, h, h3 with
  | [], [], _, _ => rfl
  | [x], [y], _, _ => simp [subL, toV, V3.sub]
  | [x, x'], [y, y'], _, _ => simp [subL, toV, V3.sub]
  | [x, x', x''], [y, y', y''], _, _ => simp [subL, toV, V3.sub]
theorem leL_sub : ∀ {x l : List Int}, leL x l → ∀ n ∈ subL l x, 0 ≤ n
  | [], [], _, n, hn => by simp [subL] at hn
  | a :: x, b :: l, h, n, hn => by
    simp only [subL, List.zipWith_cons_cons, List.mem_cons] at hn
    rcases hn with rfl | hn
    · have := h.1; omega
    · exact leL_sub h.2 n hn
theorem leL_le : ∀ {x l : List Int} {B : Int}, leL x l → (∀ n ∈ l, n ≤ B) → ∀ n ∈ subL l x, n ≤ B
  | [], [], _, _, _, n, hn => by simp [subL] at hn
  | a :: x, b :: l, B, h, hb, n, hn => by
    simp only [subL, List.zipWith_cons_cons, List.mem_cons] at hn
    rcases hn with rfl | hn
    · have := h.1; have := hb b (by simp); omega
    · exact leL_le h.2 (fun n hn => hb n (by simp [hn])) n hn
def trL (p : V3) : List Ctr → Int → List Int → List (List (List Int))
  | [], _, l => if l.sum = 0 then [[]] else []
  | c :: r, f, l => (splL l (roll c)).flatMap fun s => if f < flw p c (toV s) then [] else (trL p r (f - flw p c (toV s)) (subL l s)).map (s :: ·)
theorem trL_len (p : V3) : ∀ (cs : List Ctr) (f : Int) (l : List Int), l.length ≤ 3 → (∀ c ∈ cs, roll c ≤ 7) → (trL p cs f l).length ≤ 512 ^ cs.length
  | [], f, l, _, _ => by simp only [trL]; split <;> simp
  | c :: r, f, l, h3, hr => by
    simp only [trL]
    have h1 := flatMap_len_le (fun s => if f < flw p c (toV s) then [] else (trL p r (f - flw p c (toV s)) (subL l s)).map (s :: ·)) (512 ^ r.length) (splL l (roll c)) fun s hs => by
      have hl := ((leL_iff h3).1 (mem_splL.1 hs).1).1
      try dsimp only
      split
      · simp
      · rw [List.length_map]
        exact trL_len p r _ _ (by rw [subL_len hl]; exact h3) fun c hc => hr c (by simp [hc])
    have h2 := splL_len l (roll c) (hr c (by simp))
    have h4 : 8 ^ l.length ≤ 512 := Nat.le_trans (Nat.pow_le_pow_right (by omega) h3) (by decide)
    rw [List.length_cons, Nat.pow_succ, Nat.mul_comm]
    exact Nat.le_trans h1 (Nat.mul_le_mul_right _ (by omega))
theorem sum_zero {l : List Int} (h3 : l.length ≤ 3) (hn : ∀ n ∈ l, 0 ≤ n) : l.sum = 0 ↔ toV l = V3.zero := by
  rw [toV_sum h3]
  have := V3.nn_of hn
  simp only [V3.nn] at this
  constructor
  · intro h
    simp only [V3.sum] at h
    exact V3.ext' (by simp only [V3.zero]; omega) (by simp only [V3.zero]; omega) (by simp only [V3.zero]; omega)
  · intro h; rw [h]; rfl
theorem mem_trL (p : V3) {k : Nat} (hk : k ≤ 3) : ∀ {cs : List Ctr} {f : Int} {l : List Int} {ls : List (List Int)}, l.length = k → (∀ n ∈ l, 0 ≤ n) → 0 ≤ f →
    (ls ∈ trL p cs f l ↔ (∀ x ∈ ls, x.length = k) ∧ IsT (toV l) cs (ls.map toV) ∧ flT p cs (ls.map toV) ≤ f)
  | [], f, l, ls, hl, hn, hf => by
    simp only [trL]
    have hz := sum_zero (by omega) hn
    cases ls with
    | nil =>
      simp only [List.map_nil, IsT, flT]
      by_cases h : l.sum = 0
      · rw [if_pos h]; simp [hz.1 h, hf]
      · rw [if_neg h]; simp; intro h'; exact absurd (hz.2 h') h
    | cons x ls => simp only [List.map_cons, IsT, false_and, and_false, iff_false]; split <;> simp
  | c :: r, f, l, ls, hl, hn, hf => by
    simp only [trL, List.mem_flatMap]
    constructor
    · rintro ⟨s, hs, h⟩
      obtain ⟨h1, h2⟩ := mem_splL.1 hs
      obtain ⟨e1, e2, e3⟩ := (leL_iff (by omega)).1 h1
      split at h
      · simp at h
      · rename_i hfl
        obtain ⟨ls', h4, rfl⟩ := List.mem_map.1 h
        have hb := flw_bd p c (toV s)
        obtain ⟨h5, h6, h7⟩ := (mem_trL p hk (cs := r) (by rw [subL_len e1]; exact hl) (leL_sub h1) (by omega)).1 h4
        rw [toV_subL e1 (by omega)] at h6
        refine ⟨fun x hx => ?_, ⟨⟨e2, by rw [← toV_sum (by omega)]; exact h2⟩, h6⟩, ?_⟩
        · cases hx with
          | head => omega
          | tail _ hx => exact h5 x hx
        · simp only [List.map_cons, flT]; omega
    · intro ⟨h1, h2, h3⟩
      cases ls with
      | nil => simp [IsT] at h2
      | cons s ls' =>
        simp only [List.map_cons, IsT, flT] at h2 h3
        obtain ⟨⟨h4, h5⟩, h6⟩ := h2
        have e1 : s.length = l.length := by rw [h1 s (by simp), hl]
        have hb := flw_bd p c (toV s)
        have hb2 := flT_bd p r (ls'.map toV)
        have h7 := (IsT_nn h6).1
        have hle : leL s l := (leL_iff (by omega)).2 ⟨e1, h4, by simp only [V3.nn, V3.sub, V3.le] at h7 ⊢; omega⟩
        refine ⟨s, mem_splL.2 ⟨hle, by rw [toV_sum (by omega)]; exact h5⟩, ?_⟩
        rw [if_neg (by omega)]
        refine List.mem_map.2 ⟨ls', (mem_trL p hk (cs := r) (by rw [subL_len e1]; exact hl) (leL_sub hle) (by omega)).2 ⟨fun x hx => h1 x (by simp [hx]), by rw [toV_subL e1 (by omega)]; exact h6, by omega⟩, rfl⟩
end Go.Ab.T
end

section
namespace Go.Ab.T
set_option maxRecDepth 8000
set_option maxHeartbeats 1000000
def rowT (x : List Int × Tk) : AV := .sl (x.1.map I64) x.2
theorem snRowT (m : Mem) (q : Nat) (x : List Int × Tk) : snap m (q + 2) (rowT x) = encIs x.1 := by
  show AV.sl ((x.1.map I64).map (snap m (q + 1))) .unk = _
  rw [snI10]; rfl
theorem snRows (m : Mem) (q : Nat) (D : List (List Int × Tk)) (tk : Tk) : snap m (q + 3) (.sl (D.map rowT) tk) = encIss (D.map Prod.fst) := by
  show AV.sl ((D.map rowT).map (snap m (q + 2))) .unk = _
  rw [List.map_map, show snap m (q + 2) ∘ rowT = fun x => encIs x.1 from funext (fun t => snRowT m q t)]
  unfold encIss
  rw [List.map_map]; rfl
theorem snIsT (m : Mem) (q : Nat) (l : List Int) (tk : Tk) : snap m (q + 2) (.sl (l.map I64) tk) = encIs l := by
  show AV.sl ((l.map I64).map (snap m (q + 1))) .unk = _
  rw [snI10]; rfl
theorem hotIsT (q : Nat) (l : List Int) (tk : Tk) : hot (q + 2) (.sl (l.map I64) tk) = false := hotIs q l
theorem appG {bl : List Blk} {tk : List (Nat × Nat)} {a : AV} {es : List AV} {tkk : Tk} {T sz bytes : Nat} (ha : a.cells.length = sz) (hs : ∀ e ∈ es, e.cells.length = sz) (hl : (1 + es.length) * (bytes + 1) ≤ limit) {K : AV × Mem → Prop} (h : ∀ w tk', TkK T tk tk' → K (.sl (a :: es) w, ⟨bl, tk'⟩)) :
    @OptH _ (appendAt ⟨bl, tk⟩ false (.sl [a] .tight) (.sl es tkk) T sz bytes) ⟨K⟩ := by
  have h1 : hdSz es sz = true := by
    cases es with
    | nil => rfl
    | cons e r => simp [hdSz, hs e (by simp)]
  have h2 : hdSz [a] sz = true := by simp [hdSz, ha]
  by_cases he : es.length = 0
  · have : appendAt ⟨bl, tk⟩ false (.sl [a] .tight) (.sl es tkk) T sz bytes = some (.sl (a :: es) .tight, ⟨bl, tk⟩) := by
      simp only [appendAt, Mem.elems, h1, h2, List.length_cons, List.length_nil, Nat.zero_add]
      rw [if_neg (by simp), if_pos ⟨hl, trivial⟩]
      simp [appTk, he]
    rw [this]
    exact h _ _ (TkK.refl _ _)
  · have : appendAt ⟨bl, tk⟩ false (.sl [a] .tight) (.sl es tkk) T sz bytes = some (.sl (a :: es) (.at tk.length), ⟨bl, tk ++ [(1 + es.length, T)]⟩) := by
      simp only [appendAt, Mem.elems, h1, h2, List.length_cons, List.length_nil, Nat.zero_add]
      rw [if_neg (by simp), if_pos ⟨hl, trivial⟩]
      simp [appTk, he]
    rw [this]
    refine h _ _ fun t n T' hT ht => ?_
    rw [List.getElem?_append_left (List.getElem?_eq_some_iff.1 ht).1]; exact ht
theorem splitsR_ok : ∀ (l : List Int) (n : Int), 0 ≤ n → n ≤ 7 → l.length ≤ 3 → RV ft 103 [I64 n, encIs l] (encIss (splL l n))
  | [], n, h0, h7, _ => by
    refine RV_of ft103 rfl ?_
    simp only [c103, r103]
    simp only [splL]
    by_cases hz : n = 0
    · rw [if_pos hz]
      subst hz
      simp only [go_sem, Nat.reduceEqDiff, Nat.reduceAdd, Nat.reduceLT, Nat.reduceLeDiff, reduceIte, List.length_nil, show (((0 : Nat) : Int) == 0) = true from rfl]
      rfl
    · rw [if_neg hz]
      have hz' : (n == 0) = false := beq_eq_false_iff_ne.2 hz
      simp only [go_sem, Nat.reduceEqDiff, Nat.reduceAdd, Nat.reduceLT, Nat.reduceLeDiff, reduceIte, hz', List.length_nil, show (((0 : Nat) : Int) == 0) = true from rfl]
      rfl
  | x :: r, n, h0, h7, hl => by
    have hl' : r.length ≤ 3 := by simp at hl; omega
    have ih := fun k (h1 : 0 ≤ k) (h2 : k ≤ 7) => splitsR_ok r k h1 h2 hl'
    have hlen : (splL (x :: r) n).length ≤ 512 := Nat.le_trans (splL_len _ n h7) (Nat.le_trans (Nat.pow_le_pow_right (by omega) hl) (by decide))
    refine RV_of ft103 rfl ?_
    simp only [c103, r103]
    have hne : (((r.length + 1 : Nat) : Int) == 0) = false := beq_eq_false_iff_ne.2 (by omega)
    have hsl : ∀ m, sliceAt m (encIs (x :: r)) (some (I64 1)) none 1 = some (.sl (r.map I64) (sltk ((x :: r).map I64) .unk)) := fun m => by
      unfold encIs sliceAt
      simp [Is_hd, bounds, asInt]
      exact ⟨rfl, by omega, List.take_of_length_le (by simp)⟩
    simp only [go_sem, Nat.reduceEqDiff, Nat.reduceAdd, Nat.reduceLT, Nat.reduceLeDiff, reduceIte, List.length_cons, hne]
    refine WL_inv (α := Nat × Nat × List (List Int × Tk) × AV) (fun q e mm => e 0 = I64 n ∧ e 1 = encIs (x :: r) ∧ e 5 = q.2.2.2 ∧ e 6 = I64 q.1 ∧ q.1 + q.2.1 = (min n x + 1).toNat ∧ q.2.2.1.map Prod.fst ++ (rgN q.1 q.2.1).flatMap (fun k => (splL r (n - k)).map (k :: ·)) = splL (x :: r) n ∧
      ∃ toks, AppV 22 (q.2.2.1.map rowT) q.2.2.2 toks ∧ mm = ⟨[], toks⟩) (fun q => q.2.1) (0, (min n x + 1).toNat, [], .sl [] .tight) ?_ ?_
    · simp only [go_sem, Nat.reduceEqDiff, Nat.reduceAdd, Nat.reduceLT, Nat.reduceLeDiff, reduceIte]
      exact ⟨by first | trivial | rfl, by first | trivial | rfl, by first | trivial | rfl, by first | trivial | rfl, by omega, by rw [splL, rg_rgN], [], .inl ⟨rfl, rfl⟩, by first | trivial | rfl⟩
    rintro ⟨i, mm, D, A⟩ e m ⟨g0, g1, g5, g6, him, hq, toks, hA, rfl⟩
    dsimp only at g5 g6 him hq hA
    have hDl : D.length ≤ 512 := by
      have := congrArg List.length hq
      rw [List.length_append, List.length_map] at this
      omega
    have hix : ∀ m, idxAt m (encIs (x :: r)) (AV.int .i64 0) 1 = some (.pv (I64 x) 0) := fun m => Is_idx (l := x :: r) (k := 0) rfl m
    cases mm with
    | zero =>
      simp only [rgN, List.range'_zero, List.map_nil, List.flatMap_nil, List.append_nil] at hq
      obtain ⟨tk', rfl⟩ := hA.sl
      by_cases hi : (i : Int) ≤ n
      · have hi2 : ¬ (i : Int) ≤ x := by omega
        simp only [go_sem, Nat.reduceEqDiff, Nat.reduceAdd, Nat.reduceLT, Nat.reduceLeDiff, reduceIte, g0, g1, g5, g6, decide_eq_true hi, hix, decide_eq_false hi2]
        rw [← hq]
        exact snRows _ 9 _ .tight
      · simp only [go_sem, Nat.reduceEqDiff, Nat.reduceAdd, Nat.reduceLT, Nat.reduceLeDiff, reduceIte, g0, g1, g5, g6, decide_eq_false hi]
        rw [← hq]
        exact snRows _ 9 _ .tight
    | succ mm =>
      have hi : (i : Int) ≤ n := by omega
      have hi2 : (i : Int) ≤ x := by omega
      rw [rgN_succ, List.flatMap_cons] at hq
      have hih := ih (n - i) (by omega) (by omega)
      simp only [go_sem, Nat.reduceEqDiff, Nat.reduceAdd, Nat.reduceLT, Nat.reduceLeDiff, reduceIte, g0, g1, g5, g6, decide_eq_true hi, hix, decide_eq_true hi2, hsl, wrap_i64 (n - i) (by omega) (by omega), WB103, snIsT, hotIsT, WVH_eq hih, true_and]
      obtain ⟨L, hL⟩ : ∃ L, L = splL r (n - i) := ⟨_, rfl⟩
      obtain ⟨E, hE⟩ : ∃ E, E = (rgN (i + 1) mm).flatMap (fun k => (splL r (n - k)).map (k :: ·)) := ⟨_, rfl⟩
      rw [← hL, ← hE] at hq
      rw [← hL]
      refine WL_inv (α := Nat × List (List Int) × List (List Int × Tk) × AV) (fun q e mm => e 0 = I64 n ∧ e 1 = encIs (x :: r) ∧ e 5 = q.2.2.2 ∧ e 6 = I64 i ∧ e 7 = encIss L ∧ e 8 = I64 q.1 ∧ L.drop q.1 = q.2.1 ∧ q.2.2.1.map Prod.fst ++ (q.2.1.map ((i : Int) :: ·) ++ E) = splL (x :: r) n ∧
        ∃ toks, AppV 22 (q.2.2.1.map rowT) q.2.2.2 toks ∧ mm = ⟨[], toks⟩) (fun q => q.2.1.length) (0, L, D, A) ?_ ?_
      · simp only [go_sem, Nat.reduceEqDiff, Nat.reduceAdd, Nat.reduceLT, Nat.reduceLeDiff, reduceIte, g0, g1, g5, g6]
        exact ⟨by first | trivial | rfl, by first | trivial | rfl, by first | trivial | rfl, by first | trivial | rfl, by first | trivial | rfl, by first | trivial | rfl, by first | trivial | rfl, hq, toks, hA, by first | trivial | rfl⟩
      clear g0 g1 g5 g6 hA hDl hq
      rintro ⟨j, r', D, A⟩ e m ⟨g0, g1, g5, g6, g7, g8, fd, hq, toks, hA, rfl⟩
      dsimp only at g5 g8 fd hq hA
      have hDl : D.length ≤ 512 := by
        have := congrArg List.length hq
        rw [List.length_append, List.length_map] at this
        omega
      cases r' with
      | nil =>
        have h3 := drop_nil fd
        rw [List.map_nil, List.nil_append] at hq
        simp only [go_sem, Nat.reduceEqDiff, Nat.reduceAdd, Nat.reduceLT, Nat.reduceLeDiff, reduceIte, g0, g1, g5, g6, g7, g8, dec_ge h3, wrap_n1 i (by omega)]
        refine Nx_of (i + 1, mm, D, A) (by simp) ?_
        simp only [go_sem, Nat.reduceEqDiff, Nat.reduceAdd, Nat.reduceLT, Nat.reduceLeDiff, reduceIte, g0, g1, g5]
        exact ⟨by first | trivial | rfl, by first | trivial | rfl, by first | trivial | rfl, by first | trivial | rfl, by omega, by rw [← hE]; exact hq, toks, hA, by first | trivial | rfl⟩
      | cons y r' =>
        obtain ⟨hk, fd2, hlt⟩ := drop_cons fd
        have hLl : L.length ≤ 512 := by rw [hL]; exact Nat.le_trans (splL_len _ (n - i) (by omega)) (Nat.le_trans (Nat.pow_le_pow_right (by omega) hl') (by decide))
        have hyl : y.length ≤ 1000 := by
          have := (leL_iff hl').1 (mem_splL.1 (by rw [← hL]; exact List.mem_of_getElem? hk)).1
          omega
        simp only [go_sem, Nat.reduceEqDiff, Nat.reduceAdd, Nat.reduceLT, Nat.reduceLeDiff, reduceIte, g0, g1, g5, g6, g7, g8, dec_lt hlt, Iss_idx hk]
        refine appG (a := I64 i) (es := y.map I64) (tkk := .unk) rfl (cellsIs y) (by rw [List.length_map]; unfold limit; omega) fun w tk' hT => ?_
        have hA2 := hA.keep (by decide) hT
        simp only [go_sem, Nat.reduceEqDiff, Nat.reduceAdd, Nat.reduceLT, Nat.reduceLeDiff, reduceIte, g0, g1, g5, g6, g7, g8]
        refine hA2.app (y := rowT ((i : Int) :: y, w)) (fun e he => by obtain ⟨x, _, rfl⟩ := List.mem_map.1 he; rfl) rfl (by rw [List.length_map]; unfold limit; omega) fun A' toks' hA' _ => ?_
        simp only [go_sem, Nat.reduceEqDiff, Nat.reduceAdd, Nat.reduceLT, Nat.reduceLeDiff, reduceIte, g0, g1, g6, g7, g8, wrap_n1 j (by omega)]
        refine Nx_of (j + 1, r', D ++ [((i : Int) :: y, w)], A') (by simp) ?_
        simp only [go_sem, Nat.reduceEqDiff, Nat.reduceAdd, Nat.reduceLT, Nat.reduceLeDiff, reduceIte, g0, g1, g6, g7]
        exact ⟨by first | trivial | rfl, by first | trivial | rfl, by first | trivial | rfl, by first | trivial | rfl, by first | trivial | rfl, by first | trivial | rfl, fd2, by rw [← hq, List.map_append, List.map_cons]; simp, toks', by rw [List.map_append]; exact hA', by first | trivial | rfl⟩
end Go.Ab.T
end

section
namespace Go.Ab.T
set_option maxRecDepth 8000
set_option maxHeartbeats 1000000
def mixS (a b : List Int) (s : Nat) : List Int := (subL a b).take s ++ a.drop s
theorem mixS_0 (a b : List Int) : mixS a b 0 = a := by simp [mixS]
theorem mixS_len {a b : List Int} (h : b.length = a.length) {s : Nat} (hs : s ≤ a.length) : (mixS a b s).length = a.length := by
  simp [mixS, subL_len h]; omega
theorem mixS_all {a b : List Int} (h : b.length = a.length) : mixS a b a.length = subL a b := by
  unfold mixS; rw [List.drop_length, List.append_nil, List.take_of_length_le (by rw [subL_len h]; omega)]
theorem mixS_get {a b : List Int} (h : b.length = a.length) {s : Nat} (hs : s ≤ a.length) : (mixS a b s)[s]? = a[s]? := by
  unfold mixS
  rw [List.getElem?_append_right (by rw [List.length_take, subL_len h]; omega), List.length_take, subL_len h, Nat.min_eq_left hs, List.getElem?_drop]
  simp
theorem mixS_set {a b : List Int} (h : b.length = a.length) {s : Nat} {x y : Int} (hx : a[s]? = some x) (hy : b[s]? = some y) : (mixS a b s).set s (x - y) = mixS a b (s + 1) := by
  have hs := (List.getElem?_eq_some_iff.1 hx).1
  unfold mixS
  have hz : (subL a b)[s]? = some (x - y) := by unfold subL; rw [List.getElem?_zipWith, hx, hy]
  rw [List.set_append_right _ _ (by rw [List.length_take, subL_len h]; omega), List.length_take, subL_len h, Nat.min_eq_left (by omega), Nat.sub_self, List.take_add_one, hz]
  have hd : a.drop s = x :: a.drop (s + 1) := by
    rw [List.drop_eq_getElem_cons hs]
    have := List.getElem?_eq_some_iff.1 hx
    rw [this.2]
  rw [hd]
  simp
theorem app0_ints (m : Mem) {l : List Int} (hn : l ≠ []) (hl : l.length ≤ 1000000) : append0 m (.sl [] .tight) (encIs l) 1 8 = some (.ref m.blks.length 0 l.length, newBlk m (l.map I64) 1) := by
  simp only [append0, encIs, Mem.elems, List.length_map, Is_hd]
  rw [if_pos ⟨⟨by simp only [limit]; omega, trivial⟩, by simpa using hn⟩]
def tr2 (x : List (List Int) × Tk) : AV := .sl (x.1.map encIs) x.2
theorem snTr2 (m : Mem) (q : Nat) (D : List (List (List Int) × Tk)) (tk : Tk) : snap m (q + 4) (.sl (D.map tr2) tk) = encIsss (D.map Prod.fst) := by
  show AV.sl ((D.map tr2).map (snap m (q + 3))) .unk = _
  rw [List.map_map, show snap m (q + 3) ∘ tr2 = fun x => encIss x.1 from funext (fun t => snIssT m q t.1 t.2)]
  unfold encIsss
  rw [List.map_map]; rfl
theorem truthsR_ok {v : Ev} (h : EV v) : ∀ (cs : List Ctr) (t : Nat) (f : Int) (left : List Int), v.cs.drop t = cs → t ≤ v.cs.length → left.length = v.pr.length → (∀ x ∈ left, 0 ≤ x ∧ x ≤ 80) → 0 ≤ f → f ≤ 10 →
    RV ft 96 [encE v, I64 (t : Int), I64 f, encIs left] (encIsss (trL (toV v.pr) cs f left))
  | [], t, f, left, hd, ht, hl, hb, hf0, hf1 => by
    have h3 := drop_nil hd
    have hk3 := h.k3
    have htl : ((t : Int) == v.cs.length) = true := beq_iff_eq.2 (by omega)
    have hsum := sum_ok left (by omega) fun x hx => by have := hb x hx; omega
    refine RV_of ft96 rfl ?_
    simp only [c96, r96]
    simp only [trL]
    by_cases hz : left.sum = 0
    · rw [if_pos hz]
      simp only [go_sem, Nat.reduceEqDiff, Nat.reduceAdd, Nat.reduceLT, Nat.reduceLeDiff, reduceIte, ECells, htl, WB55, WVH_eq hsum, true_and, hz]
      rfl
    · rw [if_neg hz]
      simp only [go_sem, Nat.reduceEqDiff, Nat.reduceAdd, Nat.reduceLT, Nat.reduceLeDiff, reduceIte, ECells, htl, WB55, WVH_eq hsum, true_and, beq_eq_false_iff_ne.2 hz]
      rfl
  | c :: r, t, f, left, hd, ht, hl, hb, hf0, hf1 => by
    obtain ⟨hc, hd2, hlt⟩ := drop_cons hd
    have hk3 := h.k3
    have hk1 := h.k1
    have h4 := h.toEV4
    have hn3 := h.n3
    have hco := h.cs c (List.mem_of_getElem? hc)
    have hro := hco.ro
    have h7 := h.r7 c (List.mem_of_getElem? hc)
    have htl : ((t : Int) == v.cs.length) = false := beq_eq_false_iff_ne.2 (by omega)
    have hrl := Roll_ok hco.s
    have hsp := splitsR_ok left (roll c) hro.1 h7 (by omega)
    have ih := fun f' left' => truthsR_ok h r (t + 1) f' left' hd2 (by omega)
    have hlen : (trL (toV v.pr) (c :: r) f left).length ≤ 134217728 := by
      have := trL_len (toV v.pr) (c :: r) f left (by omega) fun x hx => h.r7 x (List.mem_of_mem_drop (by rw [hd]; exact hx))
      have hcl : (c :: r).length ≤ 3 := by rw [← hd, List.length_drop]; omega
      exact Nat.le_trans this (Nat.le_trans (Nat.pow_le_pow_right (by omega) hcl) (by decide))
    refine RV_of ft96 rfl ?_
    simp only [c96, r96]
    obtain ⟨W, hW⟩ : ∃ W, W = splL left (roll c) := ⟨_, rfl⟩
    rw [← hW] at hsp
    have hWl : W.length ≤ 512 := by rw [hW]; exact Nat.le_trans (splL_len _ _ h7) (Nat.le_trans (Nat.pow_le_pow_right (by omega) (show left.length ≤ 3 by omega)) (by decide))
    obtain ⟨g, hg⟩ : ∃ g : List Int → List (List (List Int)), g = fun s => if f < flw (toV v.pr) c (toV s) then [] else (trL (toV v.pr) r (f - flw (toV v.pr) c (toV s)) (subL left s)).map (s :: ·) := ⟨_, rfl⟩
    have hT : trL (toV v.pr) (c :: r) f left = W.flatMap g := by rw [hW, hg]; rfl
    rw [hT] at hlen ⊢
    simp only [go_sem, Nat.reduceEqDiff, Nat.reduceAdd, Nat.reduceLT, Nat.reduceLeDiff, reduceIte, ECells, htl, Cs_idx hc, CCells, CEta, WB26, WVH_eq hrl, true_and, WB103, WVH_eq hsp]
    refine WL_inv (α := Nat × List (List Int) × List (List (List Int) × Tk) × AV × List Blk) (fun q e mm => e 1 = I64 t ∧ e 2 = I64 f ∧ e 3 = encIs left ∧ e 4 = .ptr 0 0 0 ∧ e 9 = q.2.2.2.1 ∧ e 10 = encIss W ∧ e 11 = I64 q.1 ∧ W.drop q.1 = q.2.1 ∧ q.2.2.1.map Prod.fst ++ q.2.1.flatMap g = W.flatMap g ∧
      ∃ toks, AppV 42 (q.2.2.1.map tr2) q.2.2.2.1 toks ∧ mm = ⟨.live [encE v] 4 :: q.2.2.2.2, toks⟩) (fun q => q.2.1.length) (0, W, [], .sl [] .tight, []) ?_ ?_
    · simp only [go_sem, Nat.reduceEqDiff, Nat.reduceAdd, Nat.reduceLT, Nat.reduceLeDiff, reduceIte]
      exact ⟨by first | trivial | rfl, by first | trivial | rfl, by first | trivial | rfl, by first | trivial | rfl, by first | trivial | rfl, by first | trivial | rfl, by first | trivial | rfl, by first | trivial | rfl, by first | trivial | rfl, [], .inl ⟨rfl, rfl⟩, by first | trivial | rfl⟩
    rintro ⟨i, R, D, A, j⟩ e m ⟨g1, g2, g3, g4, g9, g10, g11, fd, hq, toks, hA, rfl⟩
    dsimp only at g9 g11 fd hq hA
    have hDl : D.length ≤ 134217728 := by
      have := congrArg List.length hq
      rw [List.length_append, List.length_map] at this
      omega
    cases R with
    | nil =>
      have h3 := drop_nil fd
      rw [List.flatMap_nil, List.append_nil] at hq
      obtain ⟨tk', rfl⟩ := hA.sl
      simp only [go_sem, Nat.reduceEqDiff, Nat.reduceAdd, Nat.reduceLT, Nat.reduceLeDiff, reduceIte, g1, g2, g3, g4, g9, g10, g11, dec_ge h3]
      rw [← hq]
      exact snTr2 _ 8 _ .tight
    | cons s R =>
      obtain ⟨hk, fd2, hlti⟩ := drop_cons fd
      have hs := mem_splL.1 (show s ∈ splL left (roll c) by rw [← hW]; exact List.mem_of_getElem? hk)
      obtain ⟨hs1, hs2⟩ := hs
      obtain ⟨e1, e2, e3⟩ := (leL_iff (by omega)).1 hs1
      have hTL : TL v s := ⟨by omega, fun x hx => by
        have := nn_mem (l := s) (by omega) e2 x hx
        rw [← toV_sum (by omega), hs2] at this
        omega⟩
      have hFl := Flaws_ok h4 hc hTL
      have hfb := flw_bd (toV v.pr) c (toV s)
      rw [List.flatMap_cons] at hq
      by_cases hlf : f < flw (toV v.pr) c (toV s)
      · have hgs : g s = [] := by rw [hg]; exact if_pos hlf
        rw [hgs, List.nil_append] at hq
        simp only [go_sem, Nat.reduceEqDiff, Nat.reduceAdd, Nat.reduceLT, Nat.reduceLeDiff, reduceIte, g1, g2, g3, g4, g9, g10, g11, dec_lt hlti, ECells, Iss_idx hk, WB22, WVH_eq hFl, true_and, decide_eq_true hlf, wrap_n1 i (by omega)]
        refine Nx_of (i + 1, R, D, A, j) (by simp) ?_
        simp only [go_sem, Nat.reduceEqDiff, Nat.reduceAdd, Nat.reduceLT, Nat.reduceLeDiff, reduceIte, g1, g2, g3, g4, g9, g10]
        exact ⟨by first | trivial | rfl, by first | trivial | rfl, by first | trivial | rfl, by first | trivial | rfl, by first | trivial | rfl, by first | trivial | rfl, by first | trivial | rfl, fd2, hq, toks, hA, by first | trivial | rfl⟩
      have hgs : g s = (trL (toV v.pr) r (f - flw (toV v.pr) c (toV s)) (subL left s)).map (s :: ·) := by rw [hg]; exact if_neg hlf
      rw [hgs] at hq
      have ha0 : ∀ m : Mem, append0 m (.sl [] .tight) (encIs left) 1 8 = some (.ref m.blks.length 0 left.length, newBlk m (left.map I64) 1) := fun m => app0_ints m (by intro e; rw [e] at hl; simp at hl; omega) (by omega)
      simp only [go_sem, Nat.reduceEqDiff, Nat.reduceAdd, Nat.reduceLT, Nat.reduceLeDiff, reduceIte, g1, g2, g3, g4, g9, g10, g11, dec_lt hlti, ECells, Iss_idx hk, WB22, WVH_eq hFl, true_and, decide_eq_false hlf, ha0]
      refine WL_inv (α := Nat) (fun q e mm => e 1 = I64 t ∧ e 2 = I64 f ∧ e 3 = encIs left ∧ e 4 = .ptr 0 0 0 ∧ e 9 = A ∧ e 10 = encIss W ∧ e 11 = I64 i ∧ e 12 = I64 (flw (toV v.pr) c (toV s)) ∧ e 13 = .ref (j.length + 1) 0 left.length ∧ e 14 = I64 q ∧ q ≤ left.length ∧ mm = ⟨.live [encE v] 4 :: (j ++ [.live ((mixS left s q).map I64) 1]), toks⟩) (fun q => left.length - q) 0 ?_ ?_
      · simp only [go_sem, Nat.reduceEqDiff, Nat.reduceAdd, Nat.reduceLT, Nat.reduceLeDiff, reduceIte, g1, g2, g3, g4, g9, g10, g11, mixS_0]
        exact ⟨by first | trivial | rfl, by first | trivial | rfl, by first | trivial | rfl, by first | trivial | rfl, by first | trivial | rfl, by first | trivial | rfl, by first | trivial | rfl, by first | trivial | rfl, by first | trivial | rfl, by first | trivial | rfl, by first | trivial | exact Nat.zero_le _, by first | trivial | rfl⟩
      clear g1 g2 g3 g4 g9 g10 g11
      rintro q e m ⟨g1, g2, g3, g4, g9, g10, g11, g12, g13, g14, hql, rfl⟩
      by_cases hqk : q < left.length
      · have ha : left[q]? = some left[q] := List.getElem?_eq_getElem (by omega)
        have hb' : s[q]? = some s[q] := List.getElem?_eq_getElem (by omega)
        have k1 := hb _ (List.mem_of_getElem? ha)
        have k2 := hTL.bd _ (List.mem_of_getElem? hb')
        have hgt : (mixS left s q)[q]? = some left[q] := by rw [mixS_get e1 hql]; exact ha
        have hset := mixS_set e1 ha hb'
        have hbk : ∀ x : Blk, (Blk.live [encE v] 4 :: (j ++ [x]))[j.length + 1]? = some x := fun x => by simp
        have f1 : idxAt ⟨.live [encE v] 4 :: (j ++ [.live ((mixS left s q).map I64) 1]), toks⟩ (.ref (j.length + 1) 0 left.length) (I64 (q : Int)) 1 = some (.ptr (j.length + 1) q 0) := idx_own (es := (mixS left s q).map I64) (hbk _) hqk
        have f2 : loadAt ⟨.live [encE v] 4 :: (j ++ [.live ((mixS left s q).map I64) 1]), toks⟩ (.ptr (j.length + 1) q 0) none = some (I64 left[q]) := load_own (es := (mixS left s q).map I64) (hbk _) (by rw [List.getElem?_map, hgt]; rfl) rfl
        have f3 : ∀ x, storeAt ⟨.live [encE v] 4 :: (j ++ [.live ((mixS left s q).map I64) 1]), toks⟩ (.ptr (j.length + 1) q 0) (I64 x) 1 = some ⟨.live [encE v] 4 :: (j ++ [.live (((mixS left s q).map I64).set q (I64 x)) 1]), toks⟩ := fun x => by
          have := store_own (m := ⟨.live [encE v] 4 :: (j ++ [.live ((mixS left s q).map I64) 1]), toks⟩) (id := j.length + 1) (es := (mixS left s q).map I64) (k := q) (x := x) (y := left[q]) (hbk _) (by rw [List.getElem?_map, hgt]; rfl)
          rw [this]
          simp
        have f4 : ((mixS left s q).map I64).set q (I64 (left[q] - s[q])) = (mixS left s (q + 1)).map I64 := by rw [← List.map_set, hset]
        simp only [go_sem, Nat.reduceEqDiff, Nat.reduceAdd, Nat.reduceLT, Nat.reduceLeDiff, reduceIte, g1, g2, g3, g4, g9, g10, g11, g12, g13, g14, dec_lt hqk, f1, f2, f3, f4, Iss_idx hk, Is_idx hb', wrap_i64 (left[q] - s[q]) (by omega) (by omega), wrap_n1 q (by omega)]
        refine Nx_of (q + 1) (by show left.length - (q + 1) < left.length - q; omega) ?_
        simp only [go_sem, Nat.reduceEqDiff, Nat.reduceAdd, Nat.reduceLT, Nat.reduceLeDiff, reduceIte, g1, g2, g3, g4, g9, g10, g11, g12, g13]
        exact ⟨by first | trivial | rfl, by first | trivial | rfl, by first | trivial | rfl, by first | trivial | rfl, by first | trivial | rfl, by first | trivial | rfl, by first | trivial | rfl, by first | trivial | rfl, by first | trivial | rfl, by first | trivial | rfl, hqk, by first | trivial | rfl⟩
      have : q = left.length := by omega
      subst this
      rw [mixS_all e1]
      have hbk : ∀ x : Blk, (Blk.live [encE v] 4 :: (j ++ [x]))[j.length + 1]? = some x := fun x => by simp
      have f5 : frzsAt ⟨.live [encE v] 4 :: (j ++ [.live ((subL left s).map I64) 1]), toks⟩ (.ref (j.length + 1) 0 left.length) = some (.sl ((subL left s).map I64) .unk, ⟨.live [encE v] 4 :: (j ++ [.dead]), toks⟩) := by
        rw [frzsAt_ref, hbk, fzRef_live, if_pos (by rw [List.length_map, subL_len e1]; omega), List.drop_zero, List.take_of_length_le (by rw [List.length_map, subL_len e1]; omega)]
        simp
      have hih := ih (f - flw (toV v.pr) c (toV s)) (subL left s) (by rw [subL_len e1]; exact hl) (fun x hx => ⟨leL_sub hs1 x hx, leL_le hs1 (fun n hn => (hb n hn).2) x hx⟩) (by omega) (by omega)
      simp only [go_sem, Nat.reduceEqDiff, Nat.reduceAdd, Nat.reduceLT, Nat.reduceLeDiff, reduceIte, g1, g2, g3, g4, g9, g10, g11, g12, g13, g14, dec_ge (Nat.le_refl left.length), f5, ECells, wrap_n1 t (by omega), wrap_i64 (f - flw (toV v.pr) c (toV s)) (by omega) (by omega), WB96, snIsT, hotIsT, WVH_eq hih, true_and]
      obtain ⟨L, hL⟩ : ∃ L, L = trL (toV v.pr) r (f - flw (toV v.pr) c (toV s)) (subL left s) := ⟨_, rfl⟩
      rw [← hL] at hq ⊢
      refine WL_inv (α := Nat × List (List (List Int)) × List (List (List Int) × Tk) × AV) (fun q e mm => e 1 = I64 t ∧ e 2 = I64 f ∧ e 3 = encIs left ∧ e 4 = .ptr 0 0 0 ∧ e 9 = q.2.2.2 ∧ e 10 = encIss W ∧ e 11 = I64 i ∧ e 15 = encIsss L ∧ e 16 = I64 q.1 ∧ L.drop q.1 = q.2.1 ∧ q.2.2.1.map Prod.fst ++ (q.2.1.map (s :: ·) ++ R.flatMap g) = W.flatMap g ∧
        ∃ toks, AppV 42 (q.2.2.1.map tr2) q.2.2.2 toks ∧ mm = ⟨.live [encE v] 4 :: (j ++ [.dead]), toks⟩) (fun q => q.2.1.length) (0, L, D, A) ?_ ?_
      · simp only [go_sem, Nat.reduceEqDiff, Nat.reduceAdd, Nat.reduceLT, Nat.reduceLeDiff, reduceIte, g1, g2, g3, g4, g9, g10, g11]
        exact ⟨by first | trivial | rfl, by first | trivial | rfl, by first | trivial | rfl, by first | trivial | rfl, by first | trivial | rfl, by first | trivial | rfl, by first | trivial | rfl, by first | trivial | rfl, by first | trivial | rfl, by first | trivial | rfl, hq, toks, hA, by first | trivial | rfl⟩
      clear g1 g2 g3 g4 g9 g10 g11 g12 g13 g14 hA hDl hq f5
      rintro ⟨q, r', D, A⟩ e m ⟨g1, g2, g3, g4, g9, g10, g11, g15, g16, ld, hq, toks, hA, rfl⟩
      dsimp only at g9 g16 ld hq hA
      have hDl : D.length ≤ 134217728 := by
        have := congrArg List.length hq
        rw [List.length_append, List.length_map] at this
        omega
      cases r' with
      | nil =>
        have h3 := drop_nil ld
        rw [List.map_nil, List.nil_append] at hq
        simp only [go_sem, Nat.reduceEqDiff, Nat.reduceAdd, Nat.reduceLT, Nat.reduceLeDiff, reduceIte, g1, g2, g3, g4, g9, g10, g11, g15, g16, dec_ge h3, wrap_n1 i (by omega)]
        refine Nx_of (i + 1, R, D, A, j ++ [.dead]) (by simp) ?_
        simp only [go_sem, Nat.reduceEqDiff, Nat.reduceAdd, Nat.reduceLT, Nat.reduceLeDiff, reduceIte, g1, g2, g3, g4, g9, g10]
        exact ⟨by first | trivial | rfl, by first | trivial | rfl, by first | trivial | rfl, by first | trivial | rfl, by first | trivial | rfl, by first | trivial | rfl, by first | trivial | rfl, fd2, hq, toks, hA, by first | trivial | rfl⟩
      | cons y r' =>
        obtain ⟨hy, ld2, hltq⟩ := drop_cons ld
        have hyl : y.length ≤ 1000 := by
          have := (mem_trL (toV v.pr) hk3 (cs := r) (f := f - flw (toV v.pr) c (toV s)) (l := subL left s) (by rw [subL_len e1]; exact hl) (leL_sub hs1) (by omega)).1 (by rw [← hL]; exact List.mem_of_getElem? hy)
          have h8 := IsT_len this.2.1
          have : r.length ≤ 3 := by rw [← hd2, List.length_drop]; omega
          rw [List.length_map] at h8
          omega
        have hLl : L.length ≤ 134217728 := by
          have := congrArg List.length hq
          rw [hL]
          have h9 := trL_len (toV v.pr) r (f - flw (toV v.pr) c (toV s)) (subL left s) (by rw [subL_len e1]; omega) fun x hx => h.r7 x (List.mem_of_mem_drop (by rw [hd2]; exact hx))
          have hcl : r.length ≤ 3 := by rw [← hd2, List.length_drop]; omega
          exact Nat.le_trans h9 (Nat.le_trans (Nat.pow_le_pow_right (by omega) hcl) (by decide))
        simp only [go_sem, Nat.reduceEqDiff, Nat.reduceAdd, Nat.reduceLT, Nat.reduceLeDiff, reduceIte, g1, g2, g3, g4, g9, g10, g11, g15, g16, dec_lt hltq, Iss_idx hk, Isss_idx hy]
        refine appG (a := encIs s) (es := y.map encIs) (tkk := .unk) rfl (cellsIss y) (by rw [List.length_map]; unfold limit; omega) fun w tk' hT' => ?_
        have hA2 := hA.keep (by decide) hT'
        simp only [go_sem, Nat.reduceEqDiff, Nat.reduceAdd, Nat.reduceLT, Nat.reduceLeDiff, reduceIte, g1, g2, g3, g4, g9, g10, g11, g15, g16]
        refine hA2.app (y := tr2 (s :: y, w)) (fun e he => by obtain ⟨x, _, rfl⟩ := List.mem_map.1 he; rfl) rfl (by rw [List.length_map]; unfold limit; omega) fun A' toks' hA' _ => ?_
        simp only [go_sem, Nat.reduceEqDiff, Nat.reduceAdd, Nat.reduceLT, Nat.reduceLeDiff, reduceIte, g1, g2, g3, g4, g10, g11, g15, g16, wrap_n1 q (by omega)]
        refine Nx_of (q + 1, r', D ++ [(s :: y, w)], A') (by simp) ?_
        simp only [go_sem, Nat.reduceEqDiff, Nat.reduceAdd, Nat.reduceLT, Nat.reduceLeDiff, reduceIte, g1, g2, g3, g4, g10, g11, g15]
        exact ⟨by first | trivial | rfl, by first | trivial | rfl, by first | trivial | rfl, by first | trivial | rfl, by first | trivial | rfl, by first | trivial | rfl, by first | trivial | rfl, by first | trivial | rfl, by first | trivial | rfl, ld2, by rw [← hq, List.map_append, List.map_cons]; simp, toks', by rw [List.map_append]; exact hA', by first | trivial | rfl⟩
end Go.Ab.T
end
