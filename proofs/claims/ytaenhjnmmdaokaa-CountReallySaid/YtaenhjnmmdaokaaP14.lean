/-
  A part of the proofs over this seat.
  (The texts KcM5 KcK25, one behind the other.)
-/
import Derived.Test.YtaenhjnmmdaokaaP9
import Derived.Test.YtaenhjnmmdaokaaP11
set_option linter.unusedSimpArgs false
set_option linter.unusedVariables false
set_option linter.unusedSectionVars false
section
namespace Go.Ab.T
/-! ### The reference's splits and truths -/
def splL : List Int → Int → List (List Int)
  | [], n => if n = 0 then [[]] else []
  | x :: r, n => (rg (min n x)).flatMap fun k => (splL r (n - k)).map (k :: ·)
theorem flatMap_len_le {α β : Type} (f : α → List β) (B : Nat) : ∀ (l : List α), (∀ x ∈ l, (f x).length ≤ B) → (l.flatMap f).length ≤ l.length * B
  | [], _ => by simp
  | a :: l, h => by
    rw [List.flatMap_cons, List.length_append, List.length_cons, Nat.add_mul]
    have h1 := h a (by simp)
    have h2 := flatMap_len_le f B l fun x hx => h x (by simp [hx])
    omega
theorem splL_len : ∀ (l : List Int) (n : Int), n ≤ 7 → (splL l n).length ≤ 8 ^ l.length
  | [], n, _ => by simp only [splL]; split <;> simp
  | x :: r, n, h => by
    simp only [splL]
    have h1 := flatMap_len_le (fun k => (splL r (n - k)).map (k :: ·)) (8 ^ r.length) (rg (min n x)) fun k hk => by
      have := mem_rg.1 hk
      rw [List.length_map]
      exact splL_len r (n - k) (by omega)
    have h2 : (rg (min n x)).length ≤ 8 := by unfold rg; rw [List.length_map, List.length_range]; omega
    rw [List.length_cons, Nat.pow_succ, Nat.mul_comm]
    exact Nat.le_trans h1 (Nat.mul_le_mul_right _ h2)
def leL : List Int → List Int → Prop
  | [], [] => True
  | a :: x, b :: l => (0 ≤ a ∧ a ≤ b) ∧ leL x l
  | _, _ => False
theorem leL_sum : ∀ {x l : List Int}, leL x l → 0 ≤ x.sum
  | [], [], _ => by simp
  | a :: x, b :: l, h => by
    have := leL_sum h.2
    have := h.1.1
    simp only [List.sum_cons]; omega
theorem mem_splL : ∀ {l : List Int} {n : Int} {x : List Int}, x ∈ splL l n ↔ leL x l ∧ x.sum = n
  | [], n, x => by
    simp only [splL]
    cases x with
    | nil =>
      simp only [leL, List.sum_nil, true_and]
      by_cases h : n = 0
      · rw [if_pos h]; simp [h]
      · rw [if_neg h]; simp; omega
    | cons a x => simp only [leL, false_and, iff_false]; split <;> simp
  | b :: l, n, x => by
    simp only [splL, List.mem_flatMap, List.mem_map]
    constructor
    · rintro ⟨k, hk, y, hy, rfl⟩
      have h1 := mem_rg.1 hk
      obtain ⟨h2, h3⟩ := mem_splL.1 hy
      exact ⟨⟨by omega, h2⟩, by rw [List.sum_cons, h3]; omega⟩
    · intro ⟨h1, h2⟩
      cases x with
      | nil => simp [leL] at h1
      | cons a y =>
        rw [List.sum_cons] at h2
        have h3 := leL_sum h1.2
        have h4 := h1.1
        exact ⟨a, mem_rg.2 (by omega), y, mem_splL.2 ⟨h1.2, by omega⟩, rfl⟩
theorem leL_iff : ∀ {x l : List Int}, l.length ≤ 3 → (leL x l ↔ x.length = l.length ∧ (toV x).nn ∧ (toV x).le (toV l)) := by
  intro x l h3
  match l, h3 with
  | [], _ => cases x with
    | nil => simp [leL, toV, V3.nn, V3.le]
    | cons a x => simp [leL]
  | [b], _ => match x with
    | [] => simp [leL]
    | [a] => simp [leL, toV, V3.nn, V3.le]
    | a :: a' :: x => simp [leL]
  | [b, b'], _ => match x with
    | [] => simp [leL]
    | [a] => simp [leL]
    | [a, a'] => simp [leL, toV, V3.nn, V3.le]; omega
    | a :: a' :: a'' :: x => simp [leL]
  | [b, b', b''], _ => match x with
    | [] => simp [leL]
    | [a] => simp [leL]
    | [a, a'] => simp [leL]
    | [a, a', a''] => simp [leL, toV, V3.nn, V3.le]; omega
    | a :: a' :: a'' :: a''' :: x => simp [leL]
def subL (a b : List Int) : List Int := List.zipWith (· - ·) a b
theorem subL_len {a b : List Int} (h : b.length = a.length) : (subL a b).length = a.length := by simp [subL, h]
theorem toV_subL {a b : List Int} (h : b.length = a.length) (h3 : a.length ≤ 3) : toV (subL a b) = (toV a).sub (toV b) := by
  match a, b, h, h3 with
  | [], [], _, _ => rfl
  | [x], [y], _, _ => simp [subL, toV, V3.sub]
  | [x, x'], [y, y'], _, _ => simp [subL, toV, V3.sub]
  | [x, x', x''], [y, y', y''], _, _ => simp [subL, toV, V3.sub]
theorem leL_sub : ∀ {x l : List Int}, leL x l → ∀ n ∈ subL l x, 0 ≤ n
  | [], [], _, n, hn => by simp [subL] at hn
  | a :: x, b :: l, h, n, hn => by
    simp only [subL, List.zipWith_cons_cons, List.mem_cons] at hn
    rcases hn with rfl | hn
    · have := h.1; omega
    · exact leL_sub h.2 n hn
theorem leL_le : ∀ {x l : List Int} {B : Int}, leL x l → (∀ n ∈ l, n ≤ B) → ∀ n ∈ subL l x, n ≤ B
  | [], [], _, _, _, n, hn => by simp [subL] at hn
  | a :: x, b :: l, B, h, hb, n, hn => by
    simp only [subL, List.zipWith_cons_cons, List.mem_cons] at hn
    rcases hn with rfl | hn
    · have := h.1; have := hb b (by simp); omega
    · exact leL_le h.2 (fun n hn => hb n (by simp [hn])) n hn
def trL (p : V3) : List Ctr → Int → List Int → List (List (List Int))
  | [], _, l => if l.sum = 0 then [[]] else []
  | c :: r, f, l => (splL l (roll c)).flatMap fun s => if f < flw p c (toV s) then [] else (trL p r (f - flw p c (toV s)) (subL l s)).map (s :: ·)
theorem trL_len (p : V3) : ∀ (cs : List Ctr) (f : Int) (l : List Int), l.length ≤ 3 → (∀ c ∈ cs, roll c ≤ 7) → (trL p cs f l).length ≤ 512 ^ cs.length
  | [], f, l, _, _ => by simp only [trL]; split <;> simp
  | c :: r, f, l, h3, hr => by
    simp only [trL]
    have h1 := flatMap_len_le (fun s => if f < flw p c (toV s) then [] else (trL p r (f - flw p c (toV s)) (subL l s)).map (s :: ·)) (512 ^ r.length) (splL l (roll c)) fun s hs => by
      have hl := ((leL_iff h3).1 (mem_splL.1 hs).1).1
      try dsimp only
      split
      · simp
      · rw [List.length_map]
        exact trL_len p r _ _ (by rw [subL_len hl]; exact h3) fun c hc => hr c (by simp [hc])
    have h2 := splL_len l (roll c) (hr c (by simp))
    have h4 : 8 ^ l.length ≤ 512 := Nat.le_trans (Nat.pow_le_pow_right (by omega) h3) (by decide)
    rw [List.length_cons, Nat.pow_succ, Nat.mul_comm]
    exact Nat.le_trans h1 (Nat.mul_le_mul_right _ (by omega))
theorem sum_zero {l : List Int} (h3 : l.length ≤ 3) (hn : ∀ n ∈ l, 0 ≤ n) : l.sum = 0 ↔ toV l = V3.zero := by
  rw [toV_sum h3]
  have := V3.nn_of hn
  simp only [V3.nn] at this
  constructor
  · intro h
    simp only [V3.sum] at h
    exact V3.ext' (by simp only [V3.zero]; omega) (by simp only [V3.zero]; omega) (by simp only [V3.zero]; omega)
  · intro h; rw [h]; rfl
theorem mem_trL (p : V3) {k : Nat} (hk : k ≤ 3) : ∀ {cs : List Ctr} {f : Int} {l : List Int} {ls : List (List Int)}, l.length = k → (∀ n ∈ l, 0 ≤ n) → 0 ≤ f →
    (ls ∈ trL p cs f l ↔ (∀ x ∈ ls, x.length = k) ∧ IsT (toV l) cs (ls.map toV) ∧ flT p cs (ls.map toV) ≤ f)
  | [], f, l, ls, hl, hn, hf => by
    simp only [trL]
    have hz := sum_zero (by omega) hn
    cases ls with
    | nil =>
      simp only [List.map_nil, IsT, flT]
      by_cases h : l.sum = 0
      · rw [if_pos h]; simp [hz.1 h, hf]
      · rw [if_neg h]; simp; intro h'; exact absurd (hz.2 h') h
    | cons x ls => simp only [List.map_cons, IsT, false_and, and_false, iff_false]; split <;> simp
  | c :: r, f, l, ls, hl, hn, hf => by
    simp only [trL, List.mem_flatMap]
    constructor
    · rintro ⟨s, hs, h⟩
      obtain ⟨h1, h2⟩ := mem_splL.1 hs
      obtain ⟨e1, e2, e3⟩ := (leL_iff (by omega)).1 h1
      split at h
      · simp at h
      · rename_i hfl
        obtain ⟨ls', h4, rfl⟩ := List.mem_map.1 h
        have hb := flw_bd p c (toV s)
        obtain ⟨h5, h6, h7⟩ := (mem_trL p hk (cs := r) (by rw [subL_len e1]; exact hl) (leL_sub h1) (by omega)).1 h4
        rw [toV_subL e1 (by omega)] at h6
        refine ⟨fun x hx => ?_, ⟨⟨e2, by rw [← toV_sum (by omega)]; exact h2⟩, h6⟩, ?_⟩
        · cases hx with
          | head => omega
          | tail _ hx => exact h5 x hx
        · simp only [List.map_cons, flT]; omega
    · intro ⟨h1, h2, h3⟩
      cases ls with
      | nil => simp [IsT] at h2
      | cons s ls' =>
        simp only [List.map_cons, IsT, flT] at h2 h3
        obtain ⟨⟨h4, h5⟩, h6⟩ := h2
        have e1 : s.length = l.length := by rw [h1 s (by simp), hl]
        have hb := flw_bd p c (toV s)
        have hb2 := flT_bd p r (ls'.map toV)
        have h7 := (IsT_nn h6).1
        have hle : leL s l := (leL_iff (by omega)).2 ⟨e1, h4, by simp only [V3.nn, V3.sub, V3.le] at h7 ⊢; omega⟩
        refine ⟨s, mem_splL.2 ⟨hle, by rw [toV_sum (by omega)]; exact h5⟩, ?_⟩
        rw [if_neg (by omega)]
        refine List.mem_map.2 ⟨ls', (mem_trL p hk (cs := r) (by rw [subL_len e1]; exact hl) (leL_sub hle) (by omega)).2 ⟨fun x hx => h1 x (by simp [hx]), by rw [toV_subL e1 (by omega)]; exact h6, by omega⟩, rfl⟩
end Go.Ab.T
end

section
namespace Go.Ab.T
set_option maxRecDepth 8000
set_option maxHeartbeats 1000000
def rowT (x : List Int × Tk) : AV := .sl (x.1.map I64) x.2
theorem snRowT (m : Mem) (q : Nat) (x : List Int × Tk) : snap m (q + 2) (rowT x) = encIs x.1 := by
  show AV.sl ((x.1.map I64).map (snap m (q + 1))) .unk = _
  rw [snI10]; rfl
theorem snRows (m : Mem) (q : Nat) (D : List (List Int × Tk)) (tk : Tk) : snap m (q + 3) (.sl (D.map rowT) tk) = encIss (D.map Prod.fst) := by
  show AV.sl ((D.map rowT).map (snap m (q + 2))) .unk = _
  rw [List.map_map, show snap m (q + 2) ∘ rowT = fun x => encIs x.1 from funext (fun t => snRowT m q t)]
  unfold encIss
  rw [List.map_map]; rfl
theorem snIsT (m : Mem) (q : Nat) (l : List Int) (tk : Tk) : snap m (q + 2) (.sl (l.map I64) tk) = encIs l := by
  show AV.sl ((l.map I64).map (snap m (q + 1))) .unk = _
  rw [snI10]; rfl
theorem hotIsT (q : Nat) (l : List Int) (tk : Tk) : hot (q + 2) (.sl (l.map I64) tk) = false := hotIs q l
theorem appG {bl : List Blk} {tk : List (Nat × Nat)} {a : AV} {es : List AV} {tkk : Tk} {T sz bytes : Nat} (ha : a.cells.length = sz) (hs : ∀ e ∈ es, e.cells.length = sz) (hl : (1 + es.length) * (bytes + 1) ≤ limit) {K : AV × Mem → Prop} (h : ∀ w tk', TkK T tk tk' → K (.sl (a :: es) w, ⟨bl, tk'⟩)) :
    @OptH _ (appendAt ⟨bl, tk⟩ false (.sl [a] .tight) (.sl es tkk) T sz bytes) ⟨K⟩ := by
  have h1 : hdSz es sz = true := by
    cases es with
    | nil => rfl
    | cons e r => simp [hdSz, hs e (by simp)]
  have h2 : hdSz [a] sz = true := by simp [hdSz, ha]
  by_cases he : es.length = 0
  · have : appendAt ⟨bl, tk⟩ false (.sl [a] .tight) (.sl es tkk) T sz bytes = some (.sl (a :: es) .tight, ⟨bl, tk⟩) := by
      simp only [appendAt, Mem.elems, h1, h2, List.length_cons, List.length_nil, Nat.zero_add]
      rw [if_neg (by simp), if_pos ⟨hl, trivial⟩]
      simp [appTk, he]
    rw [this]
    exact h _ _ (TkK.refl _ _)
  · have : appendAt ⟨bl, tk⟩ false (.sl [a] .tight) (.sl es tkk) T sz bytes = some (.sl (a :: es) (.at tk.length), ⟨bl, tk ++ [(1 + es.length, T)]⟩) := by
      simp only [appendAt, Mem.elems, h1, h2, List.length_cons, List.length_nil, Nat.zero_add]
      rw [if_neg (by simp), if_pos ⟨hl, trivial⟩]
      simp [appTk, he]
    rw [this]
    refine h _ _ fun t n T' hT ht => ?_
    rw [List.getElem?_append_left (List.getElem?_eq_some_iff.1 ht).1]; exact ht
theorem splitsR_ok : ∀ (l : List Int) (n : Int), 0 ≤ n → n ≤ 7 → l.length ≤ 3 → RV ft 103 [I64 n, encIs l] (encIss (splL l n))
  | [], n, h0, h7, _ => by
    refine RV_of ft103 rfl ?_
    simp only [c103, r103]
    simp only [splL]
    by_cases hz : n = 0
    · rw [if_pos hz]
      subst hz
      simp only [go_sem, Nat.reduceEqDiff, Nat.reduceAdd, Nat.reduceLT, Nat.reduceLeDiff, reduceIte, List.length_nil, show (((0 : Nat) : Int) == 0) = true from rfl]
      rfl
    · rw [if_neg hz]
      have hz' : (n == 0) = false := beq_eq_false_iff_ne.2 hz
      simp only [go_sem, Nat.reduceEqDiff, Nat.reduceAdd, Nat.reduceLT, Nat.reduceLeDiff, reduceIte, hz', List.length_nil, show (((0 : Nat) : Int) == 0) = true from rfl]
      rfl
  | x :: r, n, h0, h7, hl => by
    have hl' : r.length ≤ 3 := by simp at hl; omega
    have ih := fun k (h1 : 0 ≤ k) (h2 : k ≤ 7) => splitsR_ok r k h1 h2 hl'
    have hlen : (splL (x :: r) n).length ≤ 512 := Nat.le_trans (splL_len _ n h7) (Nat.le_trans (Nat.pow_le_pow_right (by omega) hl) (by decide))
    refine RV_of ft103 rfl ?_
    simp only [c103, r103]
    have hne : (((r.length + 1 : Nat) : Int) == 0) = false := beq_eq_false_iff_ne.2 (by omega)
    have hsl : ∀ m, sliceAt m (encIs (x :: r)) (some (I64 1)) none 1 = some (.sl (r.map I64) (sltk ((x :: r).map I64) .unk)) := fun m => by
      unfold encIs sliceAt
      simp [Is_hd, bounds, asInt]
      exact ⟨rfl, by omega, List.take_of_length_le (by simp)⟩
    simp only [go_sem, Nat.reduceEqDiff, Nat.reduceAdd, Nat.reduceLT, Nat.reduceLeDiff, reduceIte, List.length_cons, hne]
    refine WL_inv (α := Nat × Nat × List (List Int × Tk) × AV) (fun q e mm => e 0 = I64 n ∧ e 1 = encIs (x :: r) ∧ e 5 = q.2.2.2 ∧ e 6 = I64 q.1 ∧ q.1 + q.2.1 = (min n x + 1).toNat ∧ q.2.2.1.map Prod.fst ++ (rgN q.1 q.2.1).flatMap (fun k => (splL r (n - k)).map (k :: ·)) = splL (x :: r) n ∧
      ∃ toks, AppV 22 (q.2.2.1.map rowT) q.2.2.2 toks ∧ mm = ⟨[], toks⟩) (fun q => q.2.1) (0, (min n x + 1).toNat, [], .sl [] .tight) ?_ ?_
    · simp only [go_sem, Nat.reduceEqDiff, Nat.reduceAdd, Nat.reduceLT, Nat.reduceLeDiff, reduceIte]
      exact ⟨by first | trivial | rfl, by first | trivial | rfl, by first | trivial | rfl, by first | trivial | rfl, by omega, by rw [splL, rg_rgN], [], .inl ⟨rfl, rfl⟩, by first | trivial | rfl⟩
    rintro ⟨i, mm, D, A⟩ e m ⟨g0, g1, g5, g6, him, hq, toks, hA, rfl⟩
    dsimp only at g5 g6 him hq hA
    have hDl : D.length ≤ 512 := by
      have := congrArg List.length hq
      rw [List.length_append, List.length_map] at this
      omega
    have hix : ∀ m, idxAt m (encIs (x :: r)) (AV.int .i64 0) 1 = some (.pv (I64 x) 0) := fun m => Is_idx (l := x :: r) (k := 0) rfl m
    cases mm with
    | zero =>
      simp only [rgN, List.range'_zero, List.map_nil, List.flatMap_nil, List.append_nil] at hq
      obtain ⟨tk', rfl⟩ := hA.sl
      by_cases hi : (i : Int) ≤ n
      · have hi2 : ¬ (i : Int) ≤ x := by omega
        simp only [go_sem, Nat.reduceEqDiff, Nat.reduceAdd, Nat.reduceLT, Nat.reduceLeDiff, reduceIte, g0, g1, g5, g6, decide_eq_true hi, hix, decide_eq_false hi2]
        rw [← hq]
        exact snRows _ 9 _ .tight
      · simp only [go_sem, Nat.reduceEqDiff, Nat.reduceAdd, Nat.reduceLT, Nat.reduceLeDiff, reduceIte, g0, g1, g5, g6, decide_eq_false hi]
        rw [← hq]
        exact snRows _ 9 _ .tight
    | succ mm =>
      have hi : (i : Int) ≤ n := by omega
      have hi2 : (i : Int) ≤ x := by omega
      rw [rgN_succ, List.flatMap_cons] at hq
      have hih := ih (n - i) (by omega) (by omega)
      simp only [go_sem, Nat.reduceEqDiff, Nat.reduceAdd, Nat.reduceLT, Nat.reduceLeDiff, reduceIte, g0, g1, g5, g6, decide_eq_true hi, hix, decide_eq_true hi2, hsl, wrap_i64 (n - i) (by omega) (by omega), WB103, snIsT, hotIsT, WVH_eq hih, true_and]
      obtain ⟨L, hL⟩ : ∃ L, L = splL r (n - i) := ⟨_, rfl⟩
      obtain ⟨E, hE⟩ : ∃ E, E = (rgN (i + 1) mm).flatMap (fun k => (splL r (n - k)).map (k :: ·)) := ⟨_, rfl⟩
      rw [← hL, ← hE] at hq
      rw [← hL]
      refine WL_inv (α := Nat × List (List Int) × List (List Int × Tk) × AV) (fun q e mm => e 0 = I64 n ∧ e 1 = encIs (x :: r) ∧ e 5 = q.2.2.2 ∧ e 6 = I64 i ∧ e 7 = encIss L ∧ e 8 = I64 q.1 ∧ L.drop q.1 = q.2.1 ∧ q.2.2.1.map Prod.fst ++ (q.2.1.map ((i : Int) :: ·) ++ E) = splL (x :: r) n ∧
        ∃ toks, AppV 22 (q.2.2.1.map rowT) q.2.2.2 toks ∧ mm = ⟨[], toks⟩) (fun q => q.2.1.length) (0, L, D, A) ?_ ?_
      · simp only [go_sem, Nat.reduceEqDiff, Nat.reduceAdd, Nat.reduceLT, Nat.reduceLeDiff, reduceIte, g0, g1, g5, g6]
        exact ⟨by first | trivial | rfl, by first | trivial | rfl, by first | trivial | rfl, by first | trivial | rfl, by first | trivial | rfl, by first | trivial | rfl, by first | trivial | rfl, hq, toks, hA, by first | trivial | rfl⟩
      clear g0 g1 g5 g6 hA hDl hq
      rintro ⟨j, r', D, A⟩ e m ⟨g0, g1, g5, g6, g7, g8, fd, hq, toks, hA, rfl⟩
      dsimp only at g5 g8 fd hq hA
      have hDl : D.length ≤ 512 := by
        have := congrArg List.length hq
        rw [List.length_append, List.length_map] at this
        omega
      cases r' with
      | nil =>
        have h3 := drop_nil fd
        rw [List.map_nil, List.nil_append] at hq
        simp only [go_sem, Nat.reduceEqDiff, Nat.reduceAdd, Nat.reduceLT, Nat.reduceLeDiff, reduceIte, g0, g1, g5, g6, g7, g8, dec_ge h3, wrap_n1 i (by omega)]
        refine Nx_of (i + 1, mm, D, A) (by simp) ?_
        simp only [go_sem, Nat.reduceEqDiff, Nat.reduceAdd, Nat.reduceLT, Nat.reduceLeDiff, reduceIte, g0, g1, g5]
        exact ⟨by first | trivial | rfl, by first | trivial | rfl, by first | trivial | rfl, by first | trivial | rfl, by omega, by rw [← hE]; exact hq, toks, hA, by first | trivial | rfl⟩
      | cons y r' =>
        obtain ⟨hk, fd2, hlt⟩ := drop_cons fd
        have hLl : L.length ≤ 512 := by rw [hL]; exact Nat.le_trans (splL_len _ (n - i) (by omega)) (Nat.le_trans (Nat.pow_le_pow_right (by omega) hl') (by decide))
        have hyl : y.length ≤ 1000 := by
          have := (leL_iff hl').1 (mem_splL.1 (by rw [← hL]; exact List.mem_of_getElem? hk)).1
          omega
        simp only [go_sem, Nat.reduceEqDiff, Nat.reduceAdd, Nat.reduceLT, Nat.reduceLeDiff, reduceIte, g0, g1, g5, g6, g7, g8, dec_lt hlt, Iss_idx hk]
        refine appG (a := I64 i) (es := y.map I64) (tkk := .unk) rfl (cellsIs y) (by rw [List.length_map]; unfold limit; omega) fun w tk' hT => ?_
        have hA2 := hA.keep (by decide) hT
        simp only [go_sem, Nat.reduceEqDiff, Nat.reduceAdd, Nat.reduceLT, Nat.reduceLeDiff, reduceIte, g0, g1, g5, g6, g7, g8]
        refine hA2.app (y := rowT ((i : Int) :: y, w)) (fun e he => by obtain ⟨x, _, rfl⟩ := List.mem_map.1 he; rfl) rfl (by rw [List.length_map]; unfold limit; omega) fun A' toks' hA' _ => ?_
        simp only [go_sem, Nat.reduceEqDiff, Nat.reduceAdd, Nat.reduceLT, Nat.reduceLeDiff, reduceIte, g0, g1, g6, g7, g8, wrap_n1 j (by omega)]
        refine Nx_of (j + 1, r', D ++ [((i : Int) :: y, w)], A') (by simp) ?_
        simp only [go_sem, Nat.reduceEqDiff, Nat.reduceAdd, Nat.reduceLT, Nat.reduceLeDiff, reduceIte, g0, g1, g6, g7]
        exact ⟨by first | trivial | rfl, by first | trivial | rfl, by first | trivial | rfl, by first | trivial | rfl, by first | trivial | rfl, by first | trivial | rfl, fd2, by rw [← hq, List.map_append, List.map_cons]; simp, toks', by rw [List.map_append]; exact hA', by first | trivial | rfl⟩
end Go.Ab.T
end
