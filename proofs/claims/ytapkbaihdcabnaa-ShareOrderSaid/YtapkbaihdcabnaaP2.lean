/-
  A part of the proofs over this seat.
  (The texts KsK4 KsK5, one behind the other.)
-/
import Derived.Test.YtapkbaihdcabnaaP1
import Derived.Test.YtapkbaihdcabnaaA0
set_option linter.unusedSimpArgs false
set_option linter.unusedVariables false
set_option linter.unusedSectionVars false
section
namespace Go.Ab.T
set_option maxRecDepth 8000
set_option maxHeartbeats 4000000
theorem findC_cons (f : Int) (c : Ct) (r : List Ct) : findC f (c :: r) = if (c.film == f) = true then some c else findC f r := rfl
theorem onceF_cons (p : List Ct) (c : Ct) (r : List Ct) : onceF p (c :: r) = ((findC c.film p).isNone && onceF (p ++ [c]) r) := rfl
def zC : Ct := ⟨0, 0, 0, [], [], 0, 0, 0, 0⟩
structure NF (b : Bk) : Prop where
  c : b.cs.length < 1073741824
  r : b.rs.length < 1073741824
  s : ∀ c ∈ b.cs, c.st.length < 1073741824 ∧ c.ti.length < 1073741824
theorem findC_idx (f : Int) : ∀ (l : List Ct) (k : Nat), (findC f l = none ∧ idxP (fun c => c.film == f) l k = -1) ∨ ∃ (i : Nat) (c : Ct), findC f l = some c ∧ l[i]? = some c ∧ idxP (fun c => c.film == f) l k = ((k + i : Nat) : Int)
  | [], k => .inl ⟨rfl, rfl⟩
  | x :: l, k => by
    unfold findC idxP
    cases hx : (x.film == f)
    · rcases findC_idx f l (k + 1) with ⟨h1, h2⟩ | ⟨i, c, h1, h2, h3⟩
      · exact .inl ⟨by simpa using h1, by simpa using h2⟩
      · exact .inr ⟨i + 1, c, by simpa using h1, by simpa using h2, by simp only [Bool.false_eq_true, if_false]; rw [h3]; congr 1; omega⟩
    · exact .inr ⟨0, x, rfl, rfl, rfl⟩
theorem findC_any (f : Int) : ∀ (l : List Ct), (findC f l).isNone = !(l.any fun c => c.film == f)
  | [] => rfl
  | x :: l => by
    unfold findC
    rw [List.any_cons]
    cases hx : (x.film == f)
    · simpa using findC_any f l
    · rfl
theorem find1_ok (c : Ct) (f : Int) : RV ft 72 [encC c, .pv (I64 f) 0] (.bool (c.film == f)) := by
  refine RV_of ft72 rfl ?_
  simp only [c72, r72]
  simp only [go_sem, Nat.reduceEqDiff, Nat.reduceAdd, Nat.reduceLT, Nat.reduceLeDiff, reduceIte]
theorem find_ok (l : List Ct) (f : Int) (hl : l.length < 1073741824) : RV ft 46 [encCs l, I64 f] (.tup [encC ((findC f l).getD zC), .bool (findC f l).isSome]) := by
  refine RV_of ft46 rfl ?_
  simp only [c46, r46]
  have hI := IndexFuncC_ok l (.fn 72 [] [.pv (I64 f) 0]) (fun c => c.film == f) hl (fun x hx e m K hK => by
    rw [WAH_fn]
    simp only [List.nil_append, List.cons_append]
    simp only [go_sem, Nat.reduceEqDiff, Nat.reduceAdd, Nat.reduceLT, Nat.reduceLeDiff, reduceIte, WB72, WVH_eq (find1_ok x f), true_and]
    exact hK)
  rcases findC_idx f l 0 with ⟨h1, h2⟩ | ⟨i, c, h1, h2, h3⟩
  · rw [h2] at hI
    simp only [go_sem, Nat.reduceEqDiff, Nat.reduceAdd, Nat.reduceLT, Nat.reduceLeDiff, reduceIte, WB71, WVH_eq hI, true_and, show decide ((-1 : Int) < 0) = true from rfl, h1]
    rfl
  · rw [h3] at hI
    have c0 : decide (((0 + i : Nat) : Int) < 0) = false := decide_eq_false (by omega)
    have h4 : l[0 + i]? = some c := by rw [Nat.zero_add]; exact h2
    simp only [go_sem, Nat.reduceEqDiff, Nat.reduceAdd, Nat.reduceLT, Nat.reduceLeDiff, reduceIte, WB71, WVH_eq hI, true_and, c0, Cs_idx h4, h1]
    rfl
theorem Contract_ok (b : Bk) (f : Int) (hl : b.cs.length < 1073741824) : RV ft 21 [encB b, I64 f] (.tup [encC ((findC f b.cs).getD zC), .bool (findC f b.cs).isSome]) := by
  refine RV_of ft21 rfl ?_
  simp only [c21, r21]
  simp only [go_sem, Nat.reduceEqDiff, Nat.reduceAdd, Nat.reduceLT, Nat.reduceLeDiff, reduceIte]
  refine WL_inv (α := Nat × List Ct) (fun q e mm => e 1 = I64 f ∧ e 2 = .ptr 0 0 0 ∧ e 4 = .ptr 1 0 0 ∧ e 6 = I64 q.1 ∧ b.cs.drop q.1 = q.2 ∧ findC f q.2 = findC f b.cs ∧ mm = ⟨[.live [encB b] 3, .live [.agg [I64 0, I64 0, I64 0, .sl [] .tight, .sl [] .tight, I64 0, I64 0, I64 0, I64 0]] 9], []⟩) (fun q => q.2.length) (0, b.cs) ?_ ?_
  · simp only [go_sem, Nat.reduceEqDiff, Nat.reduceAdd, Nat.reduceLT, Nat.reduceLeDiff, reduceIte]
    ((repeat' apply And.intro) <;> first | trivial | rfl | exact ⟨_, _, rfl⟩ | omega | assumption)
  rintro ⟨k, r⟩ e m ⟨h1, h2, h4, h6, hd, hq, rfl⟩
  dsimp only at h6 hd hq
  cases r with
  | nil =>
    have h3 := drop_nil hd
    simp only [go_sem, Nat.reduceEqDiff, Nat.reduceAdd, Nat.reduceLT, Nat.reduceLeDiff, reduceIte, h1, h2, h4, h6, dec_ge h3]
    rw [← hq]; rfl
  | cons x r =>
    obtain ⟨hk, hd2, hlt⟩ := drop_cons hd
    rw [findC_cons] at hq
    cases hx : (x.film == f)
    · rw [hx] at hq
      simp only [go_sem, Nat.reduceEqDiff, Nat.reduceAdd, Nat.reduceLT, Nat.reduceLeDiff, reduceIte, h1, h2, h4, h6, dec_lt hlt, Cs_idx hk, hx, wrap_n1 k (by omega)]
      refine Nx_of (k + 1, r) (by simp) ?_
      simp only [go_sem, Nat.reduceEqDiff, Nat.reduceAdd, Nat.reduceLT, Nat.reduceLeDiff, reduceIte, h1, h2, h4]
      exact ⟨trivial, trivial, trivial, trivial, hd2, by rw [← hq]; rfl, trivial⟩
    · rw [hx] at hq
      simp only [go_sem, Nat.reduceEqDiff, Nat.reduceAdd, Nat.reduceLT, Nat.reduceLeDiff, reduceIte, h1, h2, h4, h6, dec_lt hlt, Cs_idx hk, hx]
      rw [← hq]; rfl
theorem Cs_to (m : Mem) (l : List Ct) (k : Nat) (hk : k ≤ l.length) : sliceAt m (encCs l) none (some (I64 (k : Int))) 9 = some (encCs (l.take k)) := by
  unfold encCs
  rw [sliceAt_sl, if_pos (hdSz_map' encC 9 l fun _ => rfl), bounds_ns, List.length_map, if_pos ⟨Int.le_refl _, by omega, by omega⟩]
  simp [List.map_take, sltk_unk]
theorem take_snoc {α : Type} {l : List α} {k : Nat} {x : α} (h : l[k]? = some x) : l.take (k + 1) = l.take k ++ [x] := by
  rw [List.take_add_one, h]; rfl
theorem eachFilmOnce_ok (l : List Ct) (hl : l.length < 1073741824) : RV ft 94 [encCs l] (.bool (onceF [] l)) := by
  refine RV_of ft94 rfl ?_
  simp only [c94, r94]
  simp only [go_sem, Nat.reduceEqDiff, Nat.reduceAdd, Nat.reduceLT, Nat.reduceLeDiff, reduceIte]
  refine WL_inv (α := Nat × List Ct) (fun q e mm => e 0 = encCs l ∧ e 7 = encCs l ∧ e 8 = I64 l.length ∧ e 9 = I64 q.1 ∧ l.drop q.1 = q.2 ∧ onceF (l.take q.1) q.2 = onceF [] l ∧ ∃ bl tk, mm = ⟨bl, tk⟩) (fun q => q.2.length) (0, l) ?_ ?_
  · simp only [go_sem, Nat.reduceEqDiff, Nat.reduceAdd, Nat.reduceLT, Nat.reduceLeDiff, reduceIte]
    ((repeat' apply And.intro) <;> first | trivial | rfl | exact ⟨_, _, rfl⟩ | omega | assumption)
  rintro ⟨k, r⟩ e m ⟨g0, g7, g8, g9, hd, hq, bl, tk, rfl⟩
  dsimp only at g9 hd hq
  cases r with
  | nil =>
    have := drop_nil hd
    simp only [go_sem, Nat.reduceEqDiff, Nat.reduceAdd, Nat.reduceLT, Nat.reduceLeDiff, reduceIte, g0, g7, g8, g9, dec_ge this]
    rw [← hq]; rfl
  | cons x r =>
    obtain ⟨hk, hd2, hlt⟩ := drop_cons hd
    have hf := find_ok (l.take k) x.film (by rw [List.length_take]; omega)
    rw [onceF_cons] at hq
    cases hs : findC x.film (l.take k) with
    | none =>
      rw [hs] at hf hq
      simp only [go_sem, Nat.reduceEqDiff, Nat.reduceAdd, Nat.reduceLT, Nat.reduceLeDiff, reduceIte, g0, g7, g8, g9, dec_lt hlt, Cs_idx hk, Cs_to _ l k (by omega), WB46, WVH_eq hf, true_and, Option.getD, Option.isSome, wrap_n1 k (by omega)]
      refine Nx_of (k + 1, r) (by simp) ?_
      simp only [go_sem, Nat.reduceEqDiff, Nat.reduceAdd, Nat.reduceLT, Nat.reduceLeDiff, reduceIte, g0, g7, g8]
      exact ⟨trivial, trivial, trivial, trivial, hd2, by rw [take_snoc hk, ← hq]; rfl, _, _, rfl⟩
    | some y =>
      rw [hs] at hf hq
      simp only [go_sem, Nat.reduceEqDiff, Nat.reduceAdd, Nat.reduceLT, Nat.reduceLeDiff, reduceIte, g0, g7, g8, g9, dec_lt hlt, Cs_idx hk, Cs_to _ l k (by omega), WB46, WVH_eq hf, true_and, Option.getD, Option.isSome, wrap_n1 k (by omega)]
      rw [← hq]; rfl
theorem allContract_ok (l : List Ct) (hl : l.length < 1073741824) (hs : ∀ c ∈ l, c.st.length < 1073741824 ∧ c.ti.length < 1073741824) : RV ft 92 [encCs l, .fn 93 [] []] (.bool (l.all ctOK)) :=
  allC_ok l _ ctOK hl rfl rfl (fun _ _ => rfl) (fun _ => rfl) fun x hx e m K hK => by
    rw [WAH_fn]
    simp only [List.nil_append, List.append_nil]
    simp only [go_sem, Nat.reduceEqDiff, Nat.reduceAdd, Nat.reduceLT, Nat.reduceLeDiff, reduceIte, WB93, WVH_eq (validContract_ok x (hs x hx).1 (hs x hx).2), true_and]
    exact hK
theorem validBooks_ok (b : Bk) (h : NF b) : RV ft 63 [encB b] (.bool (bkOK b)) := by
  refine RV_of ft63 rfl ?_
  simp only [c63, r63]
  unfold bkOK
  cases d0 : inR b.tax 0 500
  case false => simp only [go_sem, Nat.reduceEqDiff, Nat.reduceAdd, Nat.reduceLT, Nat.reduceLeDiff, reduceIte, WB69, WVH_eq (isWithin_ok _ _ _), true_and, d0]
  cases d1 : decide ((b.cs.length : Int) ≤ 6)
  case false => simp only [go_sem, Nat.reduceEqDiff, Nat.reduceAdd, Nat.reduceLT, Nat.reduceLeDiff, reduceIte, WB69, WVH_eq (isWithin_ok _ _ _), true_and, d0, d1]
  cases d2 : b.cs.all ctOK
  case false => simp only [go_sem, Nat.reduceEqDiff, Nat.reduceAdd, Nat.reduceLT, Nat.reduceLeDiff, reduceIte, WB69, WVH_eq (isWithin_ok _ _ _), true_and, d0, d1, WB92, WVH_eq (allContract_ok _ h.c h.s), d2]
  simp only [go_sem, Nat.reduceEqDiff, Nat.reduceAdd, Nat.reduceLT, Nat.reduceLeDiff, reduceIte, WB69, WVH_eq (isWithin_ok _ _ _), true_and, d0, d1, WB92, WVH_eq (allContract_ok _ h.c h.s), d2, WB94, WVH_eq (eachFilmOnce_ok _ h.c)]
def areF : List Ct → List Ct → Bool
  | _, [] => true
  | p, c :: r => ctOK c && (!(p.any fun x => x.film == c.film) && areF (p ++ [c]) r)
theorem areF_cons (p : List Ct) (c : Ct) (r : List Ct) : areF p (c :: r) = (ctOK c && (!(p.any fun x => x.film == c.film) && areF (p ++ [c]) r)) := rfl
theorem areF_eq : ∀ (p l : List Ct), areF p l = (l.all ctOK && onceF p l)
  | _, [] => rfl
  | p, c :: r => by
    simp only [areF, areF_eq, List.all_cons, onceF, findC_any]
    cases ctOK c <;> cases r.all ctOK <;> simp
theorem areBooks_ok (b : Bk) (h : NF b) : RV ft 38 [encB b] (.bool (bkOK b)) := by
  have hm : bkOK b = (areF [] b.cs && (inR b.tax 0 500 && decide ((b.cs.length : Int) ≤ 6))) := by
    unfold bkOK
    rw [areF_eq]
    cases inR b.tax 0 500 <;> cases decide ((b.cs.length : Int) ≤ 6) <;> simp
  rw [hm]
  refine RV_of ft38 rfl ?_
  simp only [c38, r38]
  simp only [go_sem, Nat.reduceEqDiff, Nat.reduceAdd, Nat.reduceLT, Nat.reduceLeDiff, reduceIte]
  refine WL_inv (α := Nat × List Ct) (fun q e mm => e 1 = .ptr 0 0 0 ∧ e 3 = I64 q.1 ∧ b.cs.drop q.1 = q.2 ∧ areF (b.cs.take q.1) q.2 = areF [] b.cs ∧ mm = ⟨[.live [encB b] 3], []⟩) (fun q => q.2.length) (0, b.cs) ?_ ?_
  · simp only [go_sem, Nat.reduceEqDiff, Nat.reduceAdd, Nat.reduceLT, Nat.reduceLeDiff, reduceIte]
    ((repeat' apply And.intro) <;> first | trivial | rfl | exact ⟨_, _, rfl⟩ | omega | assumption)
  rintro ⟨k, r⟩ e m ⟨g1, g3, hd, hq, rfl⟩
  dsimp only at g3 hd hq
  have hl := h.c
  cases r with
  | nil =>
    have := drop_nil hd
    have hq : areF [] b.cs = true := by rw [← hq]; rfl
    rw [hq]
    cases d0 : inR b.tax 0 500
    · simp only [go_sem, Nat.reduceEqDiff, Nat.reduceAdd, Nat.reduceLT, Nat.reduceLeDiff, reduceIte, g1, g3, dec_ge this, WB55, WVH_eq (within_ok _ _ _), true_and, d0]
    · simp only [go_sem, Nat.reduceEqDiff, Nat.reduceAdd, Nat.reduceLT, Nat.reduceLeDiff, reduceIte, g1, g3, dec_ge this, WB55, WVH_eq (within_ok _ _ _), true_and, d0]
  | cons x r =>
    obtain ⟨hk, hd2, hlt⟩ := drop_cons hd
    have hx := h.s x (List.mem_of_getElem? hk)
    rw [areF_cons] at hq
    cases h1 : ctOK x
    · rw [h1] at hq
      simp only [go_sem, Nat.reduceEqDiff, Nat.reduceAdd, Nat.reduceLT, Nat.reduceLeDiff, reduceIte, g1, g3, dec_lt hlt, Cs_idx hk, WB68, WVH_eq (isContract_ok x hx.1 hx.2), true_and, h1]
      rw [← hq]; rfl
    rw [h1] at hq
    simp only [go_sem, Nat.reduceEqDiff, Nat.reduceAdd, Nat.reduceLT, Nat.reduceLeDiff, reduceIte, g1, g3, dec_lt hlt, Cs_idx hk, WB68, WVH_eq (isContract_ok x hx.1 hx.2), true_and, h1]
    refine WL_inv (α := Nat × List Ct) (fun q e mm => e 1 = .ptr 0 0 0 ∧ e 3 = I64 k ∧ e 4 = I64 q.1 ∧ (b.cs.take k).drop q.1 = q.2 ∧ q.2.any (fun y => y.film == x.film) = (b.cs.take k).any (fun y => y.film == x.film) ∧ mm = ⟨[.live [encB b] 3], []⟩) (fun q => q.2.length) (0, b.cs.take k) ?_ ?_
    · simp only [go_sem, Nat.reduceEqDiff, Nat.reduceAdd, Nat.reduceLT, Nat.reduceLeDiff, reduceIte, g1, g3]
      ((repeat' apply And.intro) <;> first | trivial | rfl | exact ⟨_, _, rfl⟩ | omega | assumption)
    rintro ⟨j, s⟩ e m ⟨g1, g3, g4, hd3, hq3, rfl⟩
    dsimp only at g4 hd3 hq3
    cases s with
    | nil =>
      have := drop_nil hd3
      rw [List.length_take] at this
      have hq3 : (b.cs.take k).any (fun y => y.film == x.film) = false := by rw [← hq3]; rfl
      rw [hq3] at hq
      simp only [go_sem, Nat.reduceEqDiff, Nat.reduceAdd, Nat.reduceLT, Nat.reduceLeDiff, reduceIte, g1, g3, g4, dec_ge (show k ≤ j by omega), wrap_n1 k (by omega)]
      refine Nx_of (k + 1, r) (by simp) ?_
      simp only [go_sem, Nat.reduceEqDiff, Nat.reduceAdd, Nat.reduceLT, Nat.reduceLeDiff, reduceIte, g1]
      exact ⟨trivial, trivial, hd2, by rw [take_snoc hk, ← hq]; rfl, trivial⟩
    | cons y s =>
      obtain ⟨hk3, hd4, hlt3⟩ := drop_cons hd3
      rw [List.length_take] at hlt3
      have hy : b.cs[j]? = some y := by rw [List.getElem?_take_of_lt (by omega)] at hk3; exact hk3
      rw [List.any_cons] at hq3
      cases hxy : (y.film == x.film)
      · rw [hxy] at hq3
        simp only [go_sem, Nat.reduceEqDiff, Nat.reduceAdd, Nat.reduceLT, Nat.reduceLeDiff, reduceIte, g1, g3, g4, dec_lt (show j < k by omega), Cs_idx hk, Cs_idx hy, hxy, wrap_n1 j (by omega)]
        refine Nx_of (j + 1, s) (by simp) ?_
        simp only [go_sem, Nat.reduceEqDiff, Nat.reduceAdd, Nat.reduceLT, Nat.reduceLeDiff, reduceIte, g1, g3]
        exact ⟨trivial, trivial, trivial, hd4, by rw [← hq3]; simp, trivial⟩
      · rw [hxy] at hq3
        simp only [go_sem, Nat.reduceEqDiff, Nat.reduceAdd, Nat.reduceLT, Nat.reduceLeDiff, reduceIte, g1, g3, g4, dec_lt (show j < k by omega), Cs_idx hk, Cs_idx hy, hxy]
        rw [← hq, ← hq3]; simp
end Go.Ab.T
end

section
namespace Go.Ab.T
set_option maxRecDepth 8000
set_option maxHeartbeats 4000000
theorem get_last2 {α : Type} (l : List α) (a b : α) : (l ++ [a] ++ [b])[l.length]? = some a := by simp
theorem set_last2 {α : Type} (l : List α) (a b c : α) : (l ++ [a] ++ [b]).set l.length c = l ++ [c] ++ [b] := by simp
theorem get_last3 {α : Type} (l : List α) (a b c : α) : (l ++ [a] ++ [b] ++ [c])[l.length]? = some a := by simp
attribute [go_sem] get_last2 set_last2 get_last3
theorem eqR_comm (a b : Rp) : eqR a b = eqR b a := by
  rw [Bool.eq_iff_iff, eqR_iff, eqR_iff]; exact ⟨Eq.symm, Eq.symm⟩
theorem encR_inj {a b : Rp} (h : encR a = encR b) : a = b := by
  cases a; cases b
  simp only [encR, AV.agg.injEq, List.cons.injEq, AV.int.injEq, true_and, and_true] at h
  simp only [Rp.mk.injEq]; exact h
theorem validReport_ok (b : Bk) (r : Rp) (hl : b.cs.length < 1073741824) : RV ft 75 [encB b, encR r] (.bool (rpOK b.cs r)) := by
  refine RV_of ft75 rfl ?_
  simp only [c75, r75]
  have hf := find_ok b.cs r.film hl
  unfold rpOK
  cases hs : findC r.film b.cs with
  | none =>
    rw [hs] at hf
    simp only [go_sem, Nat.reduceEqDiff, Nat.reduceAdd, Nat.reduceLT, Nat.reduceLeDiff, reduceIte, WB46, WVH_eq hf, true_and, Option.getD, Option.isSome]
  | some c =>
    rw [hs] at hf
    dsimp only
    cases d0 : inR r.week c.fi c.la
    case false => simp only [go_sem, Nat.reduceEqDiff, Nat.reduceAdd, Nat.reduceLT, Nat.reduceLeDiff, reduceIte, WB46, WVH_eq hf, true_and, Option.getD, Option.isSome, WB42, WVH_eq (hasWeek_ok _ _), d0]
    cases d1 : inR r.id 0 99
    case false => simp only [go_sem, Nat.reduceEqDiff, Nat.reduceAdd, Nat.reduceLT, Nat.reduceLeDiff, reduceIte, WB46, WVH_eq hf, true_and, Option.getD, Option.isSome, WB42, WVH_eq (hasWeek_ok _ _), d0, WB69, WVH_eq (isWithin_ok _ _ _), d1]
    cases d2 : (r.kind == 1)
    · cases d3 : (r.kind == 2)
      · simp only [go_sem, Nat.reduceEqDiff, Nat.reduceAdd, Nat.reduceLT, Nat.reduceLeDiff, reduceIte, WB46, WVH_eq hf, true_and, Option.getD, Option.isSome, WB42, WVH_eq (hasWeek_ok _ _), d0, WB69, WVH_eq (isWithin_ok _ _ _), d1, d2, d3]
      · cases d4 : inR r.till 0 9
        · simp only [go_sem, Nat.reduceEqDiff, Nat.reduceAdd, Nat.reduceLT, Nat.reduceLeDiff, reduceIte, WB46, WVH_eq hf, true_and, Option.getD, Option.isSome, WB42, WVH_eq (hasWeek_ok _ _), d0, WB69, WVH_eq (isWithin_ok _ _ _), d1, d2, d3, d4]
        · simp only [go_sem, Nat.reduceEqDiff, Nat.reduceAdd, Nat.reduceLT, Nat.reduceLeDiff, reduceIte, WB46, WVH_eq hf, true_and, Option.getD, Option.isSome, WB42, WVH_eq (hasWeek_ok _ _), d0, WB69, WVH_eq (isWithin_ok _ _ _), d1, d2, d3, d4, WB59, WVH_eq (isTake_ok _)]
    · cases d4 : inR r.till 0 9
      · simp only [go_sem, Nat.reduceEqDiff, Nat.reduceAdd, Nat.reduceLT, Nat.reduceLeDiff, reduceIte, WB46, WVH_eq hf, true_and, Option.getD, Option.isSome, WB42, WVH_eq (hasWeek_ok _ _), d0, WB69, WVH_eq (isWithin_ok _ _ _), d1, d2, d4]
      · simp only [go_sem, Nat.reduceEqDiff, Nat.reduceAdd, Nat.reduceLT, Nat.reduceLeDiff, reduceIte, WB46, WVH_eq hf, true_and, Option.getD, Option.isSome, WB42, WVH_eq (hasWeek_ok _ _), d0, WB69, WVH_eq (isWithin_ok _ _ _), d1, d2, d4, WB59, WVH_eq (isTake_ok _)]
theorem valid1_ok (b : Bk) (r : Rp) (hl : b.cs.length < 1073741824) : RV ft 74 [encR r, .pv (encB b) 0] (.bool (rpOK b.cs r)) := by
  refine RV_of ft74 rfl ?_
  simp only [c74, r74]
  simp only [go_sem, Nat.reduceEqDiff, Nat.reduceAdd, Nat.reduceLT, Nat.reduceLeDiff, reduceIte, WB75, WVH_eq (validReport_ok b r hl), true_and]
theorem validReports_ok (b : Bk) (l : List Rp) (hl : b.cs.length < 1073741824) (hr : l.length < 1073741824) : RV ft 49 [encB b, encRs l] (.bool (rsOK b.cs l)) := by
  refine RV_of ft49 rfl ?_
  simp only [c49, r49]
  have hA := allR_ok l (.fn 74 [] [.pv (encB b) 0]) (rpOK b.cs) hr rfl rfl (fun m q => by
    show AV.fn 74 [] [.pv (snap m (q + 6) (encB b)) 0] = _
    rw [snB]) (fun q => by
    show (false || (hot (q + 6) (encB b) || false)) = false
    rw [hotB]; rfl) (fun x hx e m K hK => by
    rw [WAH_fn]
    simp only [List.nil_append, List.cons_append]
    simp only [go_sem, Nat.reduceEqDiff, Nat.reduceAdd, Nat.reduceLT, Nat.reduceLeDiff, reduceIte, WB74, WVH_eq (valid1_ok b x hl), true_and]
    exact hK)
  unfold rsOK
  cases d0 : decide ((l.length : Int) ≤ 40)
  · simp only [go_sem, Nat.reduceEqDiff, Nat.reduceAdd, Nat.reduceLT, Nat.reduceLeDiff, reduceIte, d0]
  · simp only [go_sem, Nat.reduceEqDiff, Nat.reduceAdd, Nat.reduceLT, Nat.reduceLeDiff, reduceIte, d0, WB73, WVH_eq hA, true_and]
theorem clsh_cons (p : List Rp) (r : Rp) (q : List Rp) : clsh p (r :: q) = (p.any (fun x => x.id == r.id && !eqR x r) || clsh (p ++ [r]) q) := rfl
theorem clash_ok (l : List Rp) (hl : l.length < 1073741824) : RV ft 51 [encRs l] (.bool (clsh [] l)) := by
  refine RV_of ft51 rfl ?_
  simp only [c51, r51]
  simp only [go_sem, Nat.reduceEqDiff, Nat.reduceAdd, Nat.reduceLT, Nat.reduceLeDiff, reduceIte]
  refine WL_inv (α := Nat × List Rp) (fun q e mm => e 3 = .mp 0 ∧ e 9 = encRs l ∧ e 10 = I64 l.length ∧ e 11 = I64 q.1 ∧ l.drop q.1 = q.2 ∧ clsh (l.take q.1) q.2 = clsh [] l ∧ ∃ kv bl tk, mm = ⟨.mp (im kv) .i :: bl, tk⟩ ∧ (∀ n v, ilook kv n = some v → ∃ x ∈ l.take q.1, x.id = n ∧ v = encR x) ∧ (∀ x ∈ l.take q.1, ilook kv x.id = some (encR x))) (fun q => q.2.length) (0, l) ?_ ?_
  · simp only [go_sem, Nat.reduceEqDiff, Nat.reduceAdd, Nat.reduceLT, Nat.reduceLeDiff, reduceIte]
    refine ⟨trivial, trivial, trivial, rfl, trivial, trivial, [], [], _, rfl, fun n v h => by simp [ilook] at h, fun x hx => by simp at hx⟩
  rintro ⟨k, r⟩ e m ⟨g3, g9, g10, g11, hd, hq, kv, bl, tk, rfl, i1, i2⟩
  dsimp only at g11 hd hq i1 i2
  cases r with
  | nil =>
    have := drop_nil hd
    simp only [go_sem, Nat.reduceEqDiff, Nat.reduceAdd, Nat.reduceLT, Nat.reduceLeDiff, reduceIte, g3, g9, g10, g11, dec_ge this]
    rw [← hq]; rfl
  | cons x r =>
    obtain ⟨hk, hd2, hlt⟩ := drop_cons hd
    rw [clsh_cons] at hq
    have fin : ((l.take k).any fun y => y.id == x.id && !eqR y x) = false → clsh (l.take (k + 1)) r = clsh [] l ∧ (∀ n v, ilook (iput kv x.id (encR x)) n = some v → ∃ y ∈ l.take (k + 1), y.id = n ∧ v = encR y) ∧ (∀ y ∈ l.take (k + 1), ilook (iput kv x.id (encR x)) y.id = some (encR y)) := fun h => by
      rw [h, Bool.false_or] at hq
      rw [take_snoc hk]
      refine ⟨hq, fun n v hv => ?_, fun y hy => ?_⟩
      · rw [ilook_iput] at hv
        split at hv
        · rename_i hn
          cases hv
          exact ⟨x, by simp, hn.symm, rfl⟩
        · obtain ⟨y, hy, h1, h2⟩ := i1 n v hv
          exact ⟨y, by simp [hy], h1, h2⟩
      · rw [ilook_iput]
        rcases List.mem_append.1 hy with hy | hy
        · split
          · rename_i hn
            have := List.any_eq_false.1 h y hy
            simp only [hn, beq_self_eq_true, Bool.true_and, Bool.not_eq_true', Bool.not_eq_false] at this
            rw [eqR_iff.1 this]
          · exact i2 y hy
        · simp only [List.mem_singleton] at hy
          subst hy
          rw [if_pos rfl]
    cases hs : ilook kv x.id with
    | none =>
      have hany : ((l.take k).any fun y => y.id == x.id && !eqR y x) = false := by
        rw [List.any_eq_false]
        intro y hy hc
        simp only [Bool.and_eq_true, beq_iff_eq] at hc
        have := i2 y hy
        rw [hc.1, hs] at this
        cases this
      obtain ⟨f1, f2, f3⟩ := fin hany
      simp only [go_sem, Nat.reduceEqDiff, Nat.reduceAdd, Nat.reduceLT, Nat.reduceLeDiff, reduceIte, g3, g9, g10, g11, dec_lt hlt, Rs_idx hk, mget_im_ok, hs, Option.getD, Option.isSome, mput_im, wrap_n1 k (by omega)]
      refine Nx_of (k + 1, r) (by simp) ?_
      simp only [go_sem, Nat.reduceEqDiff, Nat.reduceAdd, Nat.reduceLT, Nat.reduceLeDiff, reduceIte, g3, g9, g10]
      exact ⟨trivial, trivial, trivial, trivial, hd2, f1, _, _, _, rfl, f2, f3⟩
    | some v =>
      obtain ⟨y, hy, h1, rfl⟩ := i1 _ v hs
      cases hxy : eqR x y
      · have hany : ((l.take k).any fun y => y.id == x.id && !eqR y x) = true := by
          rw [List.any_eq_true]
          exact ⟨y, hy, by rw [eqR_comm, hxy]; simp [h1]⟩
        simp only [go_sem, Nat.reduceEqDiff, Nat.reduceAdd, Nat.reduceLT, Nat.reduceLeDiff, reduceIte, g3, g9, g10, g11, dec_lt hlt, Rs_idx hk, mget_im_ok, hs, Option.getD, Option.isSome, hxy]
        rw [← hq, hany]; rfl
      · have hany : ((l.take k).any fun y => y.id == x.id && !eqR y x) = false := by
          rw [List.any_eq_false]
          intro y' hy' hc
          simp only [Bool.and_eq_true, beq_iff_eq] at hc
          have := i2 y' hy'
          rw [hc.1, hs] at this
          simp only [Option.some.injEq] at this
          rw [← encR_inj this, eqR_comm, hxy] at hc
          simp at hc
        obtain ⟨f1, f2, f3⟩ := fin hany
        simp only [go_sem, Nat.reduceEqDiff, Nat.reduceAdd, Nat.reduceLT, Nat.reduceLeDiff, reduceIte, g3, g9, g10, g11, dec_lt hlt, Rs_idx hk, mget_im_ok, hs, Option.getD, Option.isSome, hxy, mput_im, wrap_n1 k (by omega)]
        refine Nx_of (k + 1, r) (by simp) ?_
        simp only [go_sem, Nat.reduceEqDiff, Nat.reduceAdd, Nat.reduceLT, Nat.reduceLeDiff, reduceIte, g3, g9, g10]
        exact ⟨trivial, trivial, trivial, trivial, hd2, f1, _, _, _, rfl, f2, f3⟩
theorem Check_ok (b : Bk) (h : NF b) : RV ft 31 [encB b] (I64 (chk b)) := by
  refine RV_of ft31 rfl ?_
  simp only [c31, r31]
  unfold chk
  cases h1 : bkOK b
  case false =>
    simp only [go_sem, Nat.reduceEqDiff, Nat.reduceAdd, Nat.reduceLT, Nat.reduceLeDiff, reduceIte, WB63, WVH_eq (validBooks_ok b h), true_and, h1]
    rfl
  cases h2 : rsOK b.cs b.rs
  case false =>
    simp only [go_sem, Nat.reduceEqDiff, Nat.reduceAdd, Nat.reduceLT, Nat.reduceLeDiff, reduceIte, WB63, WVH_eq (validBooks_ok b h), true_and, h1, WB49, WVH_eq (validReports_ok b b.rs h.c h.r), h2]
    rfl
  cases h3 : clsh [] b.rs
  · simp only [go_sem, Nat.reduceEqDiff, Nat.reduceAdd, Nat.reduceLT, Nat.reduceLeDiff, reduceIte, WB63, WVH_eq (validBooks_ok b h), true_and, h1, WB49, WVH_eq (validReports_ok b b.rs h.c h.r), h2, WB51, WVH_eq (clash_ok b.rs h.r), h3]
  · simp only [go_sem, Nat.reduceEqDiff, Nat.reduceAdd, Nat.reduceLT, Nat.reduceLeDiff, reduceIte, WB63, WVH_eq (validBooks_ok b h), true_and, h1, WB49, WVH_eq (validReports_ok b b.rs h.c h.r), h2, WB51, WVH_eq (clash_ok b.rs h.r), h3]
    rfl
def repsF (cs : List Ct) : List Rp → List Rp → Bool
  | _, [] => true
  | p, r :: q => rpOK cs r && (!(p.any fun x => x.id == r.id && !eqR x r) && repsF cs (p ++ [r]) q)
theorem repsF_cons (cs : List Ct) (p : List Rp) (r : Rp) (q : List Rp) : repsF cs p (r :: q) = (rpOK cs r && (!(p.any fun x => x.id == r.id && !eqR x r) && repsF cs (p ++ [r]) q)) := rfl
theorem repsF_eq (cs : List Ct) : ∀ (p l : List Rp), repsF cs p l = (l.all (rpOK cs) && !clsh p l)
  | _, [] => rfl
  | p, r :: q => by
    rw [repsF_cons, repsF_eq cs (p ++ [r]) q, List.all_cons, clsh_cons]
    cases rpOK cs r <;> cases q.all (rpOK cs) <;> cases (p.any fun x => x.id == r.id && !eqR x r) <;> simp
theorem areReports_ok (b : Bk) (l : List Rp) (hb : b.cs.length < 1073741824) (hl : l.length < 1073741824) : RV ft 39 [encB b, encRs l] (.bool (repsF b.cs [] l)) := by
  refine RV_of ft39 rfl ?_
  simp only [c39, r39]
  simp only [go_sem, Nat.reduceEqDiff, Nat.reduceAdd, Nat.reduceLT, Nat.reduceLeDiff, reduceIte]
  refine WL_inv (α := Nat × List Rp) (fun q e mm => e 1 = encRs l ∧ e 2 = .ptr 0 0 0 ∧ e 5 = I64 q.1 ∧ l.drop q.1 = q.2 ∧ repsF b.cs (l.take q.1) q.2 = repsF b.cs [] l ∧ ∃ bl tk, mm = ⟨.live [encB b] 3 :: bl, tk⟩) (fun q => q.2.length) (0, l) ?_ ?_
  · simp only [go_sem, Nat.reduceEqDiff, Nat.reduceAdd, Nat.reduceLT, Nat.reduceLeDiff, reduceIte]
    ((repeat' apply And.intro) <;> first | trivial | rfl | exact ⟨_, _, rfl⟩ | omega | assumption)
  rintro ⟨k, r⟩ e m ⟨g1, g2, g5, hd, hq, bl, tk, rfl⟩
  dsimp only at g5 hd hq
  cases r with
  | nil =>
    have := drop_nil hd
    simp only [go_sem, Nat.reduceEqDiff, Nat.reduceAdd, Nat.reduceLT, Nat.reduceLeDiff, reduceIte, g1, g2, g5, dec_ge this]
    rw [← hq]; rfl
  | cons x r =>
    obtain ⟨hk, hd2, hlt⟩ := drop_cons hd
    rw [repsF_cons] at hq
    have hf := Contract_ok b x.film hb
    cases hs : findC x.film b.cs with
    | none =>
      rw [hs] at hf
      have hr : rpOK b.cs x = false := by unfold rpOK; rw [hs]
      rw [hr] at hq
      simp only [go_sem, Nat.reduceEqDiff, Nat.reduceAdd, Nat.reduceLT, Nat.reduceLeDiff, reduceIte, g1, g2, g5, dec_lt hlt, Rs_idx hk, WB21, WVH_eq hf, true_and, Option.getD, Option.isSome]
      rw [← hq]; rfl
    | some c =>
    rw [hs] at hf
    have hr : rpOK b.cs x = (inR x.week c.fi c.la && (inR x.id 0 99 && ((x.kind == 1 || x.kind == 2) && (inR x.till 0 9 && taR x.cents)))) := by unfold rpOK; rw [hs]
    rw [hr] at hq
    have n1 : (x.kind != 1) = !(x.kind == 1) := rfl
    have n2 : (x.kind != 2) = !(x.kind == 2) := rfl
    have tq : ∀ n, inR n 0 10000000 = taR n := fun _ => rfl
    cases d1 : inR x.id 0 99
    case false =>
      simp only [go_sem, Nat.reduceEqDiff, Nat.reduceAdd, Nat.reduceLT, Nat.reduceLeDiff, reduceIte, g1, g2, g5, dec_lt hlt, Rs_idx hk, WB21, WVH_eq hf, true_and, Option.getD, Option.isSome, WB55, WVH_eq (within_ok _ _ _), d1]
      rw [← hq, d1]; simp
    cases d2 : (x.kind == 1 || x.kind == 2)
    case false =>
      obtain ⟨e1, e2⟩ := Bool.or_eq_false_iff.1 d2
      simp only [go_sem, Nat.reduceEqDiff, Nat.reduceAdd, Nat.reduceLT, Nat.reduceLeDiff, reduceIte, g1, g2, g5, dec_lt hlt, Rs_idx hk, WB21, WVH_eq hf, true_and, Option.getD, Option.isSome, WB55, WVH_eq (within_ok _ _ _), d1, n1, n2, e1, e2]
      rw [← hq, d2]; simp
    cases d3 : inR x.week c.fi c.la
    case false =>
      cases e1 : (x.kind == 1)
      · have e2 : (x.kind == 2) = true := by simpa [e1] using d2
        simp only [go_sem, Nat.reduceEqDiff, Nat.reduceAdd, Nat.reduceLT, Nat.reduceLeDiff, reduceIte, g1, g2, g5, dec_lt hlt, Rs_idx hk, WB21, WVH_eq hf, true_and, Option.getD, Option.isSome, WB55, WVH_eq (within_ok _ _ _), d1, n1, n2, e1, e2, d3]
        rw [← hq, d3]; simp
      · simp only [go_sem, Nat.reduceEqDiff, Nat.reduceAdd, Nat.reduceLT, Nat.reduceLeDiff, reduceIte, g1, g2, g5, dec_lt hlt, Rs_idx hk, WB21, WVH_eq hf, true_and, Option.getD, Option.isSome, WB55, WVH_eq (within_ok _ _ _), d1, n1, n2, e1, d3]
        rw [← hq, d3]; simp
    cases d4 : inR x.till 0 9
    case false =>
      cases e1 : (x.kind == 1)
      · have e2 : (x.kind == 2) = true := by simpa [e1] using d2
        simp only [go_sem, Nat.reduceEqDiff, Nat.reduceAdd, Nat.reduceLT, Nat.reduceLeDiff, reduceIte, g1, g2, g5, dec_lt hlt, Rs_idx hk, WB21, WVH_eq hf, true_and, Option.getD, Option.isSome, WB55, WVH_eq (within_ok _ _ _), d1, n1, n2, e1, e2, d3, d4]
        rw [← hq, d4]; simp
      · simp only [go_sem, Nat.reduceEqDiff, Nat.reduceAdd, Nat.reduceLT, Nat.reduceLeDiff, reduceIte, g1, g2, g5, dec_lt hlt, Rs_idx hk, WB21, WVH_eq hf, true_and, Option.getD, Option.isSome, WB55, WVH_eq (within_ok _ _ _), d1, n1, n2, e1, d3, d4]
        rw [← hq, d4]; simp
    cases d5 : taR x.cents
    case false =>
      cases e1 : (x.kind == 1)
      · have e2 : (x.kind == 2) = true := by simpa [e1] using d2
        simp only [go_sem, Nat.reduceEqDiff, Nat.reduceAdd, Nat.reduceLT, Nat.reduceLeDiff, reduceIte, g1, g2, g5, dec_lt hlt, Rs_idx hk, WB21, WVH_eq hf, true_and, Option.getD, Option.isSome, WB55, WVH_eq (within_ok _ _ _), tq, d1, n1, n2, e1, e2, d3, d4, d5]
        rw [← hq, d5]; simp
      · simp only [go_sem, Nat.reduceEqDiff, Nat.reduceAdd, Nat.reduceLT, Nat.reduceLeDiff, reduceIte, g1, g2, g5, dec_lt hlt, Rs_idx hk, WB21, WVH_eq hf, true_and, Option.getD, Option.isSome, WB55, WVH_eq (within_ok _ _ _), tq, d1, n1, n2, e1, d3, d4, d5]
        rw [← hq, d5]; simp
    rw [d1, d2, d3, d4, d5] at hq
    simp only [Bool.true_and] at hq
    cases e1 : (x.kind == 1)
    case' false =>
      have e2 : (x.kind == 2) = true := by simpa [e1] using d2
      simp only [go_sem, Nat.reduceEqDiff, Nat.reduceAdd, Nat.reduceLT, Nat.reduceLeDiff, reduceIte, g1, g2, g5, dec_lt hlt, Rs_idx hk, WB21, WVH_eq hf, true_and, Option.getD, Option.isSome, WB55, WVH_eq (within_ok _ _ _), tq, d1, n1, n2, e1, d3, d4, d5, e2]
    case' true =>
      simp only [go_sem, Nat.reduceEqDiff, Nat.reduceAdd, Nat.reduceLT, Nat.reduceLeDiff, reduceIte, g1, g2, g5, dec_lt hlt, Rs_idx hk, WB21, WVH_eq hf, true_and, Option.getD, Option.isSome, WB55, WVH_eq (within_ok _ _ _), tq, d1, n1, n2, e1, d3, d4, d5]
    all_goals
      refine WL_inv (α := Nat × List Rp) (fun q e mm => e 1 = encRs l ∧ e 2 = .ptr 0 0 0 ∧ e 5 = I64 k ∧ e 6 = .ptr (bl.length + 1) 0 0 ∧ e 9 = I64 q.1 ∧ (l.take k).drop q.1 = q.2 ∧ q.2.any (fun y => y.id == x.id && !eqR y x) = (l.take k).any (fun y => y.id == x.id && !eqR y x) ∧ ∃ bl' tk', mm = ⟨.live [encB b] 3 :: bl', tk'⟩ ∧ bl'[bl.length]? = some (.live [encR x] 6)) (fun q => q.2.length) (0, l.take k) ?_ ?_
      · simp only [go_sem, Nat.reduceEqDiff, Nat.reduceAdd, Nat.reduceLT, Nat.reduceLeDiff, reduceIte, g1, g2, g5]
        exact ⟨trivial, trivial, trivial, trivial, rfl, trivial, trivial, _, _, rfl, by simp⟩
      rintro ⟨j, s⟩ e m ⟨g1, g2, g5, g6, g9, hd3, hq3, bl', tk', rfl, hbl⟩
      dsimp only at g9 hd3 hq3
      cases s with
      | nil =>
        have := drop_nil hd3
        rw [List.length_take] at this
        have hq3 : (l.take k).any (fun y => y.id == x.id && !eqR y x) = false := by rw [← hq3]; rfl
        rw [hq3] at hq
        simp only [go_sem, Nat.reduceEqDiff, Nat.reduceAdd, Nat.reduceLT, Nat.reduceLeDiff, reduceIte, g1, g2, g5, g6, g9, dec_ge (show k ≤ j by omega), wrap_n1 k (by omega)]
        refine Nx_of (k + 1, r) (by simp) ?_
        simp only [go_sem, Nat.reduceEqDiff, Nat.reduceAdd, Nat.reduceLT, Nat.reduceLeDiff, reduceIte, g1, g2]
        exact ⟨trivial, trivial, trivial, hd2, by rw [take_snoc hk, ← hq]; rfl, _, _, rfl⟩
      | cons y s =>
        obtain ⟨hk3, hd4, hlt3⟩ := drop_cons hd3
        rw [List.length_take] at hlt3
        have hy : l[j]? = some y := by rw [List.getElem?_take_of_lt (by omega)] at hk3; exact hk3
        rw [List.any_cons] at hq3
        cases hxy : (y.id == x.id)
        · rw [hxy] at hq3
          simp only [go_sem, Nat.reduceEqDiff, Nat.reduceAdd, Nat.reduceLT, Nat.reduceLeDiff, reduceIte, g1, g2, g5, g6, g9, dec_lt (show j < k by omega), Rs_idx hk, Rs_idx hy, hbl, hxy, wrap_n1 j (by omega)]
          refine Nx_of (j + 1, s) (by simp) ?_
          simp only [go_sem, Nat.reduceEqDiff, Nat.reduceAdd, Nat.reduceLT, Nat.reduceLeDiff, reduceIte, g1, g2, g5, g6]
          exact ⟨trivial, trivial, trivial, trivial, trivial, hd4, by rw [← hq3]; simp, _, _, rfl, hbl⟩
        cases hxz : eqR y x
        · rw [hxy, hxz] at hq3
          simp only [go_sem, Nat.reduceEqDiff, Nat.reduceAdd, Nat.reduceLT, Nat.reduceLeDiff, reduceIte, g1, g2, g5, g6, g9, dec_lt (show j < k by omega), Rs_idx hk, Rs_idx hy, hbl, hxy, hxz]
          rw [← hq, ← hq3]; simp
        · rw [hxy, hxz] at hq3
          simp only [go_sem, Nat.reduceEqDiff, Nat.reduceAdd, Nat.reduceLT, Nat.reduceLeDiff, reduceIte, g1, g2, g5, g6, g9, dec_lt (show j < k by omega), Rs_idx hk, Rs_idx hy, hbl, hxy, hxz, wrap_n1 j (by omega)]
          refine Nx_of (j + 1, s) (by simp) ?_
          simp only [go_sem, Nat.reduceEqDiff, Nat.reduceAdd, Nat.reduceLT, Nat.reduceLeDiff, reduceIte, g1, g2, g5, g6]
          exact ⟨trivial, trivial, trivial, trivial, trivial, hd4, by rw [← hq3]; simp, _, _, rfl, hbl⟩
theorem CheckR_ok (b : Bk) (h : NF b) : RV ft 15 [encB b] (I64 (chk b)) := by
  refine RV_of ft15 rfl ?_
  simp only [c15, r15]
  unfold chk rsOK
  have hR := areReports_ok b b.rs h.c h.r
  rw [repsF_eq] at hR
  cases h1 : bkOK b
  case false =>
    simp only [go_sem, Nat.reduceEqDiff, Nat.reduceAdd, Nat.reduceLT, Nat.reduceLeDiff, reduceIte, WB38, WVH_eq (areBooks_ok b h), true_and, h1]
    rfl
  have c40 : decide ((b.rs.length : Int) ≤ 40) = !decide (40 < (b.rs.length : Int)) := dec_le_lt _ _
  cases h2 : decide (40 < (b.rs.length : Int))
  case true =>
    simp only [go_sem, Nat.reduceEqDiff, Nat.reduceAdd, Nat.reduceLT, Nat.reduceLeDiff, reduceIte, WB38, WVH_eq (areBooks_ok b h), true_and, h1, h2]
    rw [c40, h2]; rfl
  rw [c40, h2]
  cases h3 : (b.rs.all (rpOK b.cs) && !clsh [] b.rs)
  · rw [h3] at hR
    simp only [go_sem, Nat.reduceEqDiff, Nat.reduceAdd, Nat.reduceLT, Nat.reduceLeDiff, reduceIte, WB38, WVH_eq (areBooks_ok b h), true_and, h1, h2, WB39, WVH_eq hR]
    rw [h3]; rfl
  · rw [h3] at hR
    simp only [go_sem, Nat.reduceEqDiff, Nat.reduceAdd, Nat.reduceLT, Nat.reduceLeDiff, reduceIte, WB38, WVH_eq (areBooks_ok b h), true_and, h1, h2, WB39, WVH_eq hR]
    rw [h3]; rfl
def farC (c : Ct) : Bool := decide (30 < (c.st.length : Int)) || decide (30 < (c.ti.length : Int))
def farM (b : Bk) : Bool := (decide (20 < (b.cs.length : Int)) || decide (60 < (b.rs.length : Int))) || b.cs.any farC
theorem farM_NF {b : Bk} (h : farM b = false) : NF b := by
  unfold farM at h
  simp only [Bool.or_eq_false_iff, decide_eq_false_iff_not, List.any_eq_false, farC, Bool.or_eq_true, decide_eq_true_eq, not_or] at h
  exact ⟨by omega, by omega, fun c hc => by have := h.2 c hc; omega⟩
theorem Far_ok (b : Bk) : RV ft 14 [encB b] (.bool (farM b)) := by
  refine RV_of ft14 rfl ?_
  simp only [c14, r14]
  unfold farM
  cases h1 : decide (20 < (b.cs.length : Int))
  case true => simp only [go_sem, Nat.reduceEqDiff, Nat.reduceAdd, Nat.reduceLT, Nat.reduceLeDiff, reduceIte, h1]
  cases h2 : decide (60 < (b.rs.length : Int))
  case true => simp only [go_sem, Nat.reduceEqDiff, Nat.reduceAdd, Nat.reduceLT, Nat.reduceLeDiff, reduceIte, h1, h2]
  have hl := of_decide_eq_false h1
  simp only [go_sem, Nat.reduceEqDiff, Nat.reduceAdd, Nat.reduceLT, Nat.reduceLeDiff, reduceIte, h1, h2]
  refine WL_inv (α := Nat × List Ct) (fun q e mm => e 1 = .ptr 0 0 0 ∧ e 3 = I64 q.1 ∧ b.cs.drop q.1 = q.2 ∧ q.2.any farC = b.cs.any farC ∧ mm = ⟨[.live [encB b] 3], []⟩) (fun q => q.2.length) (0, b.cs) ?_ ?_
  · simp only [go_sem, Nat.reduceEqDiff, Nat.reduceAdd, Nat.reduceLT, Nat.reduceLeDiff, reduceIte]
    ((repeat' apply And.intro) <;> first | trivial | rfl | exact ⟨_, _, rfl⟩ | omega | assumption)
  rintro ⟨k, r⟩ e m ⟨g1, g3, hd, hq, rfl⟩
  dsimp only at g3 hd hq
  cases r with
  | nil =>
    have := drop_nil hd
    simp only [go_sem, Nat.reduceEqDiff, Nat.reduceAdd, Nat.reduceLT, Nat.reduceLeDiff, reduceIte, g1, g3, dec_ge this]
    rw [← hq]; rfl
  | cons x r =>
    obtain ⟨hk, hd2, hlt⟩ := drop_cons hd
    rw [List.any_cons, farC] at hq
    cases e1 : decide (30 < (x.st.length : Int))
    case true =>
      rw [e1] at hq
      simp only [go_sem, Nat.reduceEqDiff, Nat.reduceAdd, Nat.reduceLT, Nat.reduceLeDiff, reduceIte, g1, g3, dec_lt hlt, Cs_idx hk, e1]
      rw [← hq]; rfl
    cases e2 : decide (30 < (x.ti.length : Int))
    case true =>
      rw [e1, e2] at hq
      simp only [go_sem, Nat.reduceEqDiff, Nat.reduceAdd, Nat.reduceLT, Nat.reduceLeDiff, reduceIte, g1, g3, dec_lt hlt, Cs_idx hk, e1, e2]
      rw [← hq]; rfl
    rw [e1, e2] at hq
    simp only [go_sem, Nat.reduceEqDiff, Nat.reduceAdd, Nat.reduceLT, Nat.reduceLeDiff, reduceIte, g1, g3, dec_lt hlt, Cs_idx hk, e1, e2, wrap_n1 k (by omega)]
    refine Nx_of (k + 1, r) (by simp) ?_
    simp only [go_sem, Nat.reduceEqDiff, Nat.reduceAdd, Nat.reduceLT, Nat.reduceLeDiff, reduceIte, g1]
    exact ⟨trivial, trivial, hd2, by rw [← hq]; rfl, trivial⟩
end Go.Ab.T
end
