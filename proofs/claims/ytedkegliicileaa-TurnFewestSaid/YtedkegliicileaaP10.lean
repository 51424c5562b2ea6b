/-
  A part of the proofs over this seat.
  (The texts KzK19 KzM10 KzK20, one behind the other.)
-/
import Derived.Test.YtedkegliicileaaP9
import Derived.Test.YtedkegliicileaaP7
set_option linter.unusedSimpArgs false
set_option linter.unusedVariables false
set_option linter.unusedSectionVars false
section
namespace Go.Ab.T
set_option maxRecDepth 8000
set_option maxHeartbeats 4000000
/-- The house with all teams. -/
def h4 (h : Hs) : Hs := { h with teams := 4 }
theorem HV_h4 {h : Hs} (hH : HV h) : HV (h4 h) := ⟨by show (1 : Int) ≤ 4; omega, by show (4 : Int) ≤ 4; omega, hH.w0, hH.w1, hH.e0, hH.e1, hH.f0, hH.f1, hH.d0, hH.d1, hH.d2, hH.c0, hH.c1, hH.c2⟩
theorem HV_teams {h : Hs} (hH : HV h) {n : Int} (h0 : 1 ≤ n) (h1 : n ≤ 4) : HV { h with teams := n } := ⟨h0, h1, hH.w0, hH.w1, hH.e0, hH.e1, hH.f0, hH.f1, hH.d0, hH.d1, hH.d2, hH.c0, hH.c1, hH.c2⟩
theorem SV_h4 {h : Hs} {s : Sl} (hH : HV h) (hS : SV h s) : SV (h4 h) s := ⟨hS.s0, hS.s1, hS.r0, hS.r1, hS.r2, hS.c0, hS.c1, hS.t0, by show s.team ≤ 4 - 1; have := hS.t1; have := hH.t1; omega⟩
theorem LV_sl {h : Hs} {l : List Sl} (hV : LV h l) : ∀ s ∈ l, SV (h4 h) s ∧ 0 ≤ s.bg ∧ s.bg ≤ 2000 := fun s hs => ⟨SV_h4 hV.H (hV.S s hs), hV.b0 s hs, hV.b1 s hs⟩
theorem asg_teams (h : Hs) (m : Int) (n : Nat) : ∀ (l : List Sl) (rd id : Int → Int), asg { h with teams := m } n l rd id = asg h n l rd id
  | [], _, _ => rfl
  | s :: l, rd, id => by
    rw [asg_cons, asg_cons]
    have he : ∀ (x : Sl) (rd id : Int → Int), evH { h with teams := m } true x rd id = evH h true x rd id := fun _ _ _ => rfl
    simp only [he, asg_teams h m n l]
/-- What Assign answers. -/
def asgQ (h : Hs) (l : List Sl) : List Int × Int := if chk h l = 0 then (match asg h h.teams.toNat l zeroI zeroI with | some ts => (ts, 0) | none => ([], 3)) else ([], chk h l)
theorem Assign_ok (h : Hs) (l : List Sl) : RV ft 25 [encH h, encSs l] (.tup [encI (asgQ h l).1, I64 (asgQ h l).2]) := by
  refine RV_of ft25 rfl ?_
  simp only [c25, r25]
  unfold asgQ
  by_cases hc : chk h l = 0
  case neg =>
    rw [if_neg hc]
    simp only [go_sem, Nat.reduceEqDiff, Nat.reduceAdd, Nat.reduceLT, Nat.reduceLeDiff, reduceIte, and_self, decide_true, decide_false, beq_self_eq_true, HCells, HEta, WB31, snH, hotH, snSs, hotSs, WVH_eq (Check_ok h l), chk_ne hc, true_and]
    rfl
  rw [if_pos hc]
  have hV := chk_0.1 hc
  have hH := hV.H
  have hl12 := hV.len
  have t0 := hH.t0
  have ha := assign_ok hH (HV_h4 hH) rfl (n := h.teams.toNat) (by omega) (l := l) (LV_sl hV) (Bd_zero (c := 2000) (by omega)) (Bd_zero (by omega)) (by omega) (by omega)
  cases hs : asg h h.teams.toNat l zeroI zeroI with
  | none =>
    rw [hs] at ha
    simp only [go_sem, Nat.reduceEqDiff, Nat.reduceAdd, Nat.reduceLT, Nat.reduceLeDiff, reduceIte, and_self, decide_true, decide_false, beq_self_eq_true, HCells, HEta, WB31, snH, hotH, snSs, hotSs, WVH_eq (Check_ok h l), chk_eq hc, true_and, WB43, WVH_eq (latest_ok h), WB51, snV, hotV, WVH_eq ha, Option.isSome_none]
    rfl
  | some ts =>
    rw [hs] at ha
    simp only [go_sem, Nat.reduceEqDiff, Nat.reduceAdd, Nat.reduceLT, Nat.reduceLeDiff, reduceIte, and_self, decide_true, decide_false, beq_self_eq_true, HCells, HEta, WB31, snH, hotH, snSs, hotSs, WVH_eq (Check_ok h l), chk_eq hc, true_and, WB43, WVH_eq (latest_ok h), WB51, snV, hotV, WVH_eq ha, Option.isSome_some, Option.getD_some]
    exact congrArg (fun x => AV.tup [x, I64 0]) (snI _ 6 _)
def fewGo (h : Hs) (l : List Sl) : Nat → Nat → Int × Int
  | 0, _ => (0, 3)
  | f + 1, k => if feas h k l = true then ((k : Int), 0) else fewGo h l f (k + 1)
def fewQ (h : Hs) (l : List Sl) : Int × Int := if chk h l = 0 then fewGo h l 4 1 else (0, chk h l)
theorem H_w0 (h : Hs) (n : Int) : writeCells (encH h) 0 [I64 n] = some (encH { h with teams := n }) := rfl
theorem Fewest_ok (h : Hs) (l : List Sl) : RV ft 24 [encH h, encSs l] (.tup [I64 (fewQ h l).1, I64 (fewQ h l).2]) := by
  refine RV_of ft24 rfl ?_
  simp only [c24, r24]
  unfold fewQ
  by_cases hc : chk h l = 0
  case neg =>
    rw [if_neg hc]
    simp only [go_sem, Nat.reduceEqDiff, Nat.reduceAdd, Nat.reduceLT, Nat.reduceLeDiff, reduceIte, and_self, decide_true, decide_false, beq_self_eq_true, HCells, HEta, WB31, snH, hotH, snSs, hotSs, WVH_eq (Check_ok h l), chk_ne hc, true_and]
  rw [if_pos hc]
  have hV := chk_0.1 hc
  have hH := hV.H
  have hl12 := hV.len
  simp only [go_sem, Nat.reduceEqDiff, Nat.reduceAdd, Nat.reduceLT, Nat.reduceLeDiff, reduceIte, and_self, decide_true, decide_false, beq_self_eq_true, HCells, HEta, WB31, snH, hotH, snSs, hotSs, WVH_eq (Check_ok h l), chk_eq hc, true_and]
  refine WL_inv (α := Nat × Nat) (fun q e mm => e 1 = encSs l ∧ e 2 = .ptr 0 0 0 ∧ e 16 = I64 q.1 ∧ q.1 + q.2 = 4 ∧ fewGo h l q.2 (q.1 + 1) = fewGo h l 4 1 ∧ ∃ m, mm = ⟨[.live [encH { h with teams := m }] 8], []⟩) (fun q => q.2) (0, 4) ?_ ?_
  · simp only [go_sem, Nat.reduceEqDiff, Nat.reduceAdd, Nat.reduceLT, Nat.reduceLeDiff, reduceIte, and_self, decide_true, decide_false, beq_self_eq_true]
    exact ⟨trivial, trivial, rfl, trivial, trivial, h.teams, rfl⟩
  rintro ⟨k, f⟩ e mm ⟨g1, g2, g16, hkf, hq, m, rfl⟩
  dsimp only at g16 hkf hq
  cases f with
  | zero =>
    have d1 : decide ((k : Int) < 4) = false := decide_eq_false (by omega)
    simp only [go_sem, Nat.reduceEqDiff, Nat.reduceAdd, Nat.reduceLT, Nat.reduceLeDiff, reduceIte, and_self, decide_true, decide_false, beq_self_eq_true, g1, g2, g16, d1]
    rw [← hq]; rfl
  | succ f =>
    have d1 : decide ((k : Int) < 4) = true := decide_eq_true (by omega)
    have w1 := wrap_n1 k (by omega)
    have hHn := HV_teams hH (n := ((k + 1 : Nat) : Int)) (by omega) (by omega)
    have hla := latest_ok { h with teams := ((k + 1 : Nat) : Int) }
    have ha := assign_ok hHn (HV_h4 hH) rfl (n := k + 1) rfl (l := l) (LV_sl hV) (Bd_zero (c := 2000) (by omega)) (Bd_zero (by omega)) (by omega) (by omega)
    rw [asg_teams] at ha
    have hw : writeCells (encH { h with teams := m }) 0 [I64 ((k + 1 : Nat) : Int)] = some (encH { h with teams := ((k + 1 : Nat) : Int) }) := rfl
    have hcell : (encH { h with teams := ((k + 1 : Nat) : Int) }).cells[0]? = some (I64 ((k + 1 : Nat) : Int)) := rfl
    have hc8 : ∀ x : Hs, (encH x).cells.length = 8 := fun _ => rfl
    have ht8 : ∀ x : Hs, AV.agg ((encH x).cells.take 8) = encH x := fun _ => rfl
    rw [fewGo] at hq
    generalize hke : ({ h with teams := ((k + 1 : Nat) : Int) } : Hs) = hk at *
    unfold feas at hq
    cases hs : asg h (k + 1) l zeroI zeroI with
    | none =>
      rw [hs] at ha hq
      simp only [go_sem, Nat.reduceEqDiff, Nat.reduceAdd, Nat.reduceLT, Nat.reduceLeDiff, reduceIte, and_self, decide_true, decide_false, beq_self_eq_true, g1, g2, g16, d1, w1, hw, hcell, hc8, ht8, WB43, snH, hotH, WVH_eq hla, WB51, snV, hotV, snSs, hotSs, WVH_eq ha, true_and, Option.isSome_none]
      refine Nx_of (k + 1, f) (by simp) ?_
      simp only [go_sem, Nat.reduceEqDiff, Nat.reduceAdd, Nat.reduceLT, Nat.reduceLeDiff, reduceIte, and_self, decide_true, decide_false, beq_self_eq_true, g1, g2]
      exact ⟨trivial, trivial, trivial, by omega, by simpa using hq, _, by rw [← hke]⟩
    | some ts =>
      rw [hs] at ha hq
      simp only [go_sem, Nat.reduceEqDiff, Nat.reduceAdd, Nat.reduceLT, Nat.reduceLeDiff, reduceIte, and_self, decide_true, decide_false, beq_self_eq_true, g1, g2, g16, d1, w1, hw, hcell, hc8, ht8, WB43, snH, hotH, WVH_eq hla, WB51, snV, hotV, snSs, hotSs, WVH_eq ha, true_and, Option.isSome_some]
      rw [← hq]; rfl
/-! ### Slots with other teams -/
def wtL (l : List Sl) (ts : List Int) (k : Nat) : List Sl := withT (l.take k) (ts.take k) ++ l.drop k
theorem withT_snoc : ∀ {l : List Sl} {ts : List Int} {s : Sl} {t : Int}, ts.length = l.length → withT (l ++ [s]) (ts ++ [t]) = withT l ts ++ [onT s t]
  | [], [], _, _, _ => rfl
  | [], _ :: _, _, _, h => by simp at h
  | _ :: _, [], _, _, h => by simp at h
  | x :: l, y :: ts, s, t, h => by simp [withT, withT_snoc (l := l) (ts := ts) (s := s) (t := t) (by simpa using h)]
theorem wtL_step {l : List Sl} {ts : List Int} {k : Nat} {s : Sl} {t : Int} (hl : ts.length = l.length) (hs : l[k]? = some s) (ht : ts[k]? = some t) : (wtL l ts k)[k]? = some s ∧ (wtL l ts k).set k (onT s t) = wtL l ts (k + 1) := by
  have hk := (List.getElem?_eq_some_iff.1 hs).1
  have hd : l.drop k = s :: l.drop (k + 1) := by
    rw [List.drop_eq_getElem_cons hk]; congr 1
    exact (List.getElem?_eq_some_iff.1 hs).2
  have hwl : (withT (l.take k) (ts.take k)).length = k := by rw [withT_len (by rw [List.length_take, List.length_take, hl]), List.length_take]; omega
  unfold wtL
  constructor
  · rw [List.getElem?_append_right (by omega), hwl, Nat.sub_self, hd]; rfl
  · rw [take_snoc hs, take_snoc ht, withT_snoc (by rw [List.length_take, List.length_take, hl]), hd, List.set_append_right _ _ (by omega), hwl, Nat.sub_self]
    simp
theorem wtL_len {l : List Sl} {ts : List Int} {k : Nat} (hl : ts.length = l.length) (hk : k ≤ l.length) : (wtL l ts k).length = l.length := by
  unfold wtL; rw [List.length_append, withT_len (by rw [List.length_take, List.length_take, hl]), List.length_take, List.length_drop]; omega
theorem With_ok (l : List Sl) (ts : List Int) (hl : ts.length = l.length) (hl1 : l.length ≤ 1000000) : RV ft 26 [encSs l, encI ts] (encSs (withT l ts)) := by
  refine RV_of ft26 rfl ?_
  simp only [c26, r26]
  cases l with
  | nil =>
    have : ts = [] := List.eq_nil_of_length_eq_zero hl
    subst this
    have ha : append0 ⟨[], []⟩ (.sl [] .tight) (encSs []) 6 48 = some (.sl [] .tight, ⟨[], []⟩) := rfl
    have hz : decide ((0 : Int) < ((0 : Nat) : Int)) = false := rfl
    simp only [go_sem, Nat.reduceEqDiff, Nat.reduceAdd, Nat.reduceLT, Nat.reduceLeDiff, reduceIte, and_self, decide_true, decide_false, beq_self_eq_true, ha]
    refine WL_inv (α := Unit) (fun q e mm => e 1 = encI [] ∧ e 5 = .sl [] .tight ∧ e 6 = I64 0) (fun q => 0) () ?_ ?_
    · simp only [go_sem, Nat.reduceEqDiff, Nat.reduceAdd, Nat.reduceLT, Nat.reduceLeDiff, reduceIte, and_self, decide_true, decide_false, beq_self_eq_true]
    rintro ⟨⟩ e mm ⟨g1, g5, g6⟩
    simp only [go_sem, Nat.reduceEqDiff, Nat.reduceAdd, Nat.reduceLT, Nat.reduceLeDiff, reduceIte, and_self, decide_true, decide_false, beq_self_eq_true, g1, g5, g6, hz]
    rfl
  | cons x0 r0 =>
    obtain ⟨l, hll⟩ : ∃ l, l = x0 :: r0 := ⟨_, rfl⟩
    rw [← hll] at hl hl1 ⊢
    have ha : append0 ⟨[], []⟩ (.sl [] .tight) (encSs l) 6 48 = some (.ref 0 0 l.length, ⟨[.live (l.map encS) 6], []⟩) := by
      have h1 : hdSz (l.map encS) 6 = true := hdSz_map' encS 6 l fun _ => rfl
      have h2 : (l.map encS).length * (48 + 1) ≤ limit := by rw [List.length_map]; unfold limit; omega
      have h3 : l.map encS ≠ [] := by rw [hll]; simp
      have h2' : l.length * (48 + 1) ≤ limit := by rw [List.length_map] at h2; exact h2
      simp only [append0, elemsSs, h1, h3, ne_eq, not_false_eq_true, List.length_map]
      rw [if_pos ⟨⟨h2', trivial⟩, trivial⟩]
      rfl
    simp only [go_sem, Nat.reduceEqDiff, Nat.reduceAdd, Nat.reduceLT, Nat.reduceLeDiff, reduceIte, and_self, decide_true, decide_false, beq_self_eq_true, ha]
    refine WL_inv (α := Nat) (fun k e mm => e 1 = encI ts ∧ e 5 = .ref 0 0 l.length ∧ e 6 = I64 k ∧ k ≤ l.length ∧ mm = ⟨[.live ((wtL l ts k).map encS) 6], []⟩) (fun k => l.length - k) 0 ?_ ?_
    · simp only [go_sem, Nat.reduceEqDiff, Nat.reduceAdd, Nat.reduceLT, Nat.reduceLeDiff, reduceIte, and_self, decide_true, decide_false, beq_self_eq_true]
      exact ⟨trivial, trivial, rfl, Nat.zero_le _, rfl⟩
    rintro k e mm ⟨g1, g5, g6, hkl, rfl⟩
    by_cases hlt : k < l.length
    · obtain ⟨s, hs⟩ : ∃ s, l[k]? = some s := ⟨_, List.getElem?_eq_getElem hlt⟩
      obtain ⟨t, ht⟩ : ∃ t, ts[k]? = some t := ⟨_, List.getElem?_eq_getElem (by omega)⟩
      obtain ⟨k1, k2⟩ := wtL_step hl hs ht
      have q1 : ((0 : Int) ≤ (k : Int)) = True := eq_true (by omega)
      have q2 : ((k : Int) < (l.length : Int)) = True := eq_true (by omega)
      have hget : ((wtL l ts k).map encS)[k]? = some (encS s) := by rw [List.getElem?_map, k1]; rfl
      have hset : ((wtL l ts k).map encS).set k (encS (onT s t)) = (wtL l ts (k + 1)).map encS := by rw [← k2, List.map_set]
      have hwr : writeCells (encS s) 5 [I64 t] = some (encS (onT s t)) := rfl
      have hll2 : decide ((k : Int) < (ts.length : Int)) = true := decide_eq_true (by omega)
      simp only [go_sem, Nat.reduceEqDiff, Nat.reduceAdd, Nat.reduceLT, Nat.reduceLeDiff, reduceIte, and_self, decide_true, decide_false, beq_self_eq_true, g1, g5, g6, dec_lt hlt, I_len, hll2, I_idx _ ht, encN_eq, q1, q2, Int.toNat_natCast, Nat.zero_add, hget, SCells, hwr, hset, wrap_n1 k (by omega)]
      refine Nx_of (k + 1) (by show l.length - (k + 1) < l.length - k; omega) ?_
      simp only [go_sem, Nat.reduceEqDiff, Nat.reduceAdd, Nat.reduceLT, Nat.reduceLeDiff, reduceIte, and_self, decide_true, decide_false, beq_self_eq_true, g1, g5]
      exact ⟨trivial, trivial, trivial, hlt, trivial⟩
    obtain rfl : k = l.length := by omega
    have hend : wtL l ts l.length = withT l ts := by unfold wtL; rw [List.take_length, ← hl, List.take_length, hl]; simp
    simp only [go_sem, Nat.reduceEqDiff, Nat.reduceAdd, Nat.reduceLT, Nat.reduceLeDiff, reduceIte, and_self, decide_true, decide_false, beq_self_eq_true, g1, g5, g6, dec_ge (Nat.le_refl l.length)]
    rw [hend]
    have he : (Mem.mk [Blk.live ((withT l ts).map encS) 6] []).elems (.ref 0 0 l.length) = some ((withT l ts).map encS) := by
      simp only [Mem.elems, List.getElem?_cons_zero, List.length_map, Nat.zero_add, withT_len hl, Nat.le_refl, if_true, List.drop_zero]
      rw [List.take_of_length_le (by rw [List.length_map, withT_len hl]; exact Nat.le_refl _)]
    simp only [elems_ref] at he
    first
      | (rw [he, snEs_some]; unfold encSs; rw [List.map_map]; congr 1)
      | (have hl' : (withT l ts).length = l.length := withT_len hl
         simp only [hl', List.length_map, Nat.le_refl, if_true]
         unfold encSs
         rw [List.take_of_length_le (by rw [List.length_map, hl']; exact Nat.le_refl _), if_pos (by omega), snEs_some, List.map_map]; congr 1)
end Go.Ab.T
end

section
namespace Go.Ab.T
/-! ### All teams, one after the other -/
def okP (h : Hs) (l : List Sl) (ts : List Int) : Bool := freeB h (l.take ts.length) ts zeroI zeroI
def canE (h : Hs) (l : List Sl) (n : Nat) : Nat → List Int → Bool
  | 0, ts => okP h l ts
  | f + 1, ts => okP h l ts && (List.range n).any fun t : Nat => canE h l n f (ts ++ [(t : Int)])
theorem freeB_pre (h : Hs) : ∀ {l : List Sl} {ts us : List Int} {rd id : Int → Int}, freeB h l (ts ++ us) rd id = true → freeB h (l.take ts.length) ts rd id = true
  | _, [], _, _, _, _ => by simp [freeB]
  | [], _ :: _, _, _, _, h => by simp [freeB] at h
  | s :: l, t :: ts, us, rd, id, hf => by
    rw [List.cons_append, freeB_cons, Bool.and_eq_true] at hf
    rw [List.length_cons, List.take_succ_cons, freeB_cons, Bool.and_eq_true]
    exact ⟨hf.1, freeB_pre h hf.2⟩
theorem canE_iff {h : Hs} {l : List Sl} {n : Nat} : ∀ (f : Nat) (ts : List Int), f + ts.length = l.length → (canE h l n f ts = true ↔ ∃ us : List Int, us.length = f ∧ (∀ u ∈ us, 0 ≤ u ∧ u < n) ∧ freeB h l (ts ++ us) zeroI zeroI = true)
  | 0, ts, hl => by
    have ht : l.take ts.length = l := List.take_of_length_le (by omega)
    unfold canE okP
    rw [ht]
    constructor
    · intro hf; exact ⟨[], rfl, fun u hu => by simp at hu, by rw [List.append_nil]; exact hf⟩
    · rintro ⟨us, h1, _, h3⟩
      have : us = [] := List.eq_nil_of_length_eq_zero h1
      subst this
      rwa [List.append_nil] at h3
  | f + 1, ts, hl => by
    unfold canE
    rw [Bool.and_eq_true, List.any_eq_true]
    constructor
    · rintro ⟨_, t, ht, hc⟩
      obtain ⟨us, h1, h2, h3⟩ := (canE_iff f (ts ++ [(t : Int)]) (by simp; omega)).1 hc
      refine ⟨(t : Int) :: us, by simp [h1], fun u hu => ?_, by simpa using h3⟩
      rcases List.mem_cons.1 hu with rfl | hu
      · have := List.mem_range.1 ht; omega
      · exact h2 u hu
    · rintro ⟨us, h1, h2, h3⟩
      cases us with
      | nil => simp at h1
      | cons u us =>
        refine ⟨freeB_pre h h3, u.toNat, List.mem_range.2 (by have := h2 u (by simp); omega), ?_⟩
        have hu := h2 u (by simp)
        rw [show ((u.toNat : Nat) : Int) = u by omega]
        exact (canE_iff f (ts ++ [u]) (by simp; omega)).2 ⟨us, by simpa using h1, fun v hv => h2 v (by simp [hv]), by simpa using h3⟩
theorem canE_feas {h : Hs} {l : List Sl} {n : Nat} : canE h l n l.length [] = feas h n l := by
  rw [Bool.eq_iff_iff, canE_iff l.length [] (by simp), feas_iff]
  constructor
  · rintro ⟨us, _, h2, h3⟩; exact ⟨us, h2, h3⟩
  · rintro ⟨us, h2, h3⟩; exact ⟨us, freeB_len h h3, h2, h3⟩
/-! ### The fewest -/
theorem fewGo_spec' {p : Nat → Bool} {g : Nat → Nat → Int × Int} (h0 : ∀ k, g 0 k = (0, 3)) (h1 : ∀ f k, g (f + 1) k = if p k = true then ((k : Int), 0) else g f (k + 1)) : ∀ (f k : Nat), (g f k = (0, 3) ∧ ∀ j, k ≤ j → j < k + f → p j = false) ∨ ∃ n : Nat, g f k = ((n : Int), 0) ∧ k ≤ n ∧ n < k + f ∧ p n = true ∧ ∀ j, k ≤ j → j < n → p j = false
  | 0, k => .inl ⟨h0 k, fun j _ _ => by omega⟩
  | f + 1, k => by
    rw [h1]
    by_cases hp : p k = true
    · rw [if_pos hp]; exact .inr ⟨k, rfl, Nat.le_refl _, by omega, hp, fun j _ _ => by omega⟩
    · rw [if_neg hp]
      rcases fewGo_spec' h0 h1 f (k + 1) with ⟨g1, g2⟩ | ⟨n, g1, g2, g3, g4, g5⟩
      · refine .inl ⟨g1, fun j hj1 hj2 => ?_⟩
        by_cases hjk : j = k
        · subst hjk; simpa using hp
        · exact g2 j (by omega) (by omega)
      · refine .inr ⟨n, g1, by omega, by omega, g4, fun j hj1 hj2 => ?_⟩
        by_cases hjk : j = k
        · subst hjk; simpa using hp
        · exact g5 j (by omega) hj2
/-! ### How many teams are used -/
def usedT (ts : List Int) (t : Nat) : Bool := ts.any (· == (t : Int))
def cntT (ts : List Int) (m : Nat) : Nat := ((List.range m).filter (usedT ts)).length
theorem cntT_succ (ts : List Int) (m : Nat) : cntT ts (m + 1) = cntT ts m + if usedT ts m = true then 1 else 0 := by
  unfold cntT
  rw [List.range_succ, List.filter_append, List.length_append]
  by_cases h : usedT ts m = true
  · rw [if_pos h]; simp [h]
  · rw [if_neg h]; simp [h]
theorem cntT_mono (ts : List Int) : ∀ {a b : Nat}, a ≤ b → cntT ts a ≤ cntT ts b
  | a, 0, h => by have : a = 0 := by omega
                  subst this; exact Nat.le_refl _
  | a, b + 1, h => by
    by_cases hab : a = b + 1
    · subst hab; exact Nat.le_refl _
    · have := cntT_mono ts (a := a) (b := b) (by omega)
      have := cntT_succ ts b
      omega
theorem feas_many {h : Hs} {l : List Sl} {ts : List Int} (hr : ∀ t ∈ ts, 0 ≤ t ∧ t < 4) (hf : freeB h l ts zeroI zeroI = true) : feas h (cntT ts 4) l = true := by
  have hstep : ∀ a ∈ ts, ∀ b : Nat, a.toNat < b → cntT ts a.toNat < cntT ts b := by
    intro a ha b hab
    have h1 := cntT_mono ts (a := a.toNat + 1) (b := b) (by omega)
    have hu : usedT ts a.toNat = true := List.any_eq_true.2 ⟨a, ha, by have := hr a ha; simp; omega⟩
    rw [cntT_succ, if_pos hu] at h1
    omega
  refine feas_iff.2 ⟨ts.map fun a => (cntT ts a.toNat : Int), fun t ht => ?_, freeB_map h _ (fun a ha b hb he => ?_) (fun _ _ => rfl) hf⟩
  · obtain ⟨a, ha, rfl⟩ := List.mem_map.1 ht
    have := hstep a ha 4 (by have := hr a ha; omega)
    omega
  · have h1 := hr a ha
    have h2 := hr b hb
    have he' : cntT ts a.toNat = cntT ts b.toNat := by omega
    refine Classical.byContradiction fun hne => ?_
    rcases Nat.lt_or_gt_of_ne (show a.toNat ≠ b.toNat by omega) with hlt | hlt
    · have := hstep a ha b.toNat hlt; omega
    · have := hstep b hb a.toNat hlt; omega
theorem withT_LV {h : Hs} {l : List Sl} (hV : LV h l) {n : Int} (hn : 1 ≤ n) (hn4 : n ≤ 4) {ts : List Int} (hl : ts.length = l.length) (hr : ∀ t ∈ ts, 0 ≤ t ∧ t < n) : LV { h with teams := n } (withT l ts) := by
  have hH := hV.H
  have hget : ∀ (i : Nat) s, (withT l ts)[i]? = some s → ∃ x t, l[i]? = some x ∧ ts[i]? = some t ∧ s = onT x t := by
    intro i s hs
    have hlt := (List.getElem?_eq_some_iff.1 hs).1
    rw [withT_len hl] at hlt
    obtain ⟨x, hx⟩ : ∃ x, l[i]? = some x := ⟨_, List.getElem?_eq_getElem hlt⟩
    obtain ⟨t, ht⟩ : ∃ t, ts[i]? = some t := ⟨_, List.getElem?_eq_getElem (by omega)⟩
    rw [withT_get hx ht] at hs
    cases hs
    exact ⟨x, t, hx, ht, rfl⟩
  have hmem : ∀ s ∈ withT l ts, ∃ x t, x ∈ l ∧ t ∈ ts ∧ s = onT x t := by
    intro s hs
    rw [List.mem_iff_getElem?] at hs
    obtain ⟨i, hi⟩ := hs
    obtain ⟨x, t, h1, h2, h3⟩ := hget i s hi
    exact ⟨x, t, List.mem_of_getElem? h1, List.mem_of_getElem? h2, h3⟩
  refine ⟨⟨hn, hn4, hH.w0, hH.w1, hH.e0, hH.e1, hH.f0, hH.f1, hH.d0, hH.d1, hH.d2, hH.c0, hH.c1, hH.c2⟩, by rw [withT_len hl]; exact hV.len, fun s hs => ?_, fun s hs => ?_, fun s hs => ?_, fun i j a b hij ha hb => ?_⟩
  · obtain ⟨x, t, h1, h2, rfl⟩ := hmem s hs
    have hS := hV.S x h1
    have ht := hr t h2
    exact ⟨hS.s0, hS.s1, hS.r0, hS.r1, hS.r2, hS.c0, hS.c1, ht.1, by show t ≤ n - 1; omega⟩
  · obtain ⟨x, t, h1, _, rfl⟩ := hmem s hs; exact hV.b0 x h1
  · obtain ⟨x, t, h1, _, rfl⟩ := hmem s hs; exact hV.b1 x h1
  · obtain ⟨x, _, h1, _, rfl⟩ := hget i a ha
    obtain ⟨y, _, h2, _, rfl⟩ := hget j b hb
    exact hV.asc i j x y hij h1 h2
end Go.Ab.T
end

section
namespace Go.Ab.T
set_option maxRecDepth 8000
set_option maxHeartbeats 4000000
theorem withT_RS : ∀ {l : List Sl} {ts : List Int}, (∀ s ∈ l, RS s) → ∀ s ∈ withT l ts, RS s
  | [], _, _, s, hs => by simp [withT] at hs
  | _ :: _, [], _, s, hs => by simp [withT] at hs
  | x :: l, t :: ts, hl, s, hs => by
    rw [withT] at hs
    rcases List.mem_cons.1 hs with rfl | hs
    · have := hl x (by simp)
      exact ⟨this.c0, this.c1, this.b0, this.b1, this.r0, this.r1, this.r2⟩
    · exact withT_RS (fun y hy => hl y (List.mem_cons_of_mem _ hy)) s hs
theorem appTs (bl : List Blk) (tk : List (Nat × Nat)) (ts : List Int) (x : Int) (hl : ts.length ≤ 1000) : ∃ w1 tk1 w2 tk2, appendAt ⟨bl, tk⟩ false (.sl [] .tight) (encI ts) 3 1 8 = some (.sl (ts.map encN) w1, ⟨bl, tk1⟩) ∧
    appendAt ⟨bl, tk1⟩ false (.sl (ts.map encN) w1) (.sl [I64 x] .tight) 3 1 8 = some (.sl ((ts ++ [x]).map encN) w2, ⟨bl, tk2⟩) := by
  have h1 : hdSz (ts.map encN) 1 = true := hdSz_map' encN 1 ts fun _ => rfl
  have h3 : hdSz [I64 x] 1 = true := rfl
  have h2 : (0 + ts.length) * (8 + 1) ≤ limit := by unfold limit; omega
  have h5 : (ts.length + 1) * (8 + 1) ≤ limit := by unfold limit; omega
  cases ts with
  | nil =>
    refine ⟨.tight, tk, .at tk.length, tk ++ [(1, 3)], rfl, ?_⟩
    simp [appendAt, Mem.elems, appTk, hdSz, encN, limit]
    rfl
  | cons y r =>
    refine ⟨.at tk.length, tk ++ [((y :: r).length, 3)], .at tk.length, (tk ++ [((y :: r).length, 3)]).set tk.length ((y :: r).length + 1, 3), ?_, ?_⟩
    · simp only [appendAt, elemsI, h1, List.length_nil, List.length_map, h2, hdSz, true_and, appTk]
      simp [List.length_cons, encN]
      rfl
    · have h4 : (tk ++ [((y :: r).length, 3)])[tk.length]? = some ((y :: r).length, 3) := by simp
      simp only [appendAt, Mem.elems, h1, h3, List.length_map, List.length_singleton, h5, appTk, h4]
      simp [encN]
theorem apart_ps (a b c : Nat) (es : List AV) (t : Tk) : apart (.ptr a b c) (.sl es t) = true := rfl
theorem can_ok {h : Hs} (hH : HV h) {l : List Sl} (hl : l.length ≤ 40) (hR : ∀ s ∈ l, RS s) (n : Nat) (hn : n ≤ 1000) : ∀ (f : Nat) (ts : List Int), f + ts.length = l.length → RV ft 60 [encH h, encSs l, encI ts, I64 n] (.bool (canE h l n f ts))
  | f, ts, hf => by
    refine RV_of ft60 rfl ?_
    simp only [c60, r60]
    have hk : ts.length ≤ l.length := by omega
    have htl : ts.length = (l.take ts.length).length := by rw [List.length_take]; omega
    have hto := fun m => Ss_to m l ts.length hk
    have hW := With_ok (l.take ts.length) ts htl (by rw [← htl]; omega)
    have hL := lateR_ok h hH (withT (l.take ts.length) ts) (by rw [withT_len htl, ← htl]; omega) (withT_RS fun s hs => hR s (List.mem_of_mem_take hs))
    obtain ⟨k1, k2⟩ := lateGo_free h (l := l.take ts.length) (ts := ts) (rd := zeroI) (id := zeroI) (n := 0) htl (Int.le_refl _)
    obtain ⟨L, hLe⟩ : ∃ L, L = lateGo h (withT (l.take ts.length) ts) zeroI zeroI 0 := ⟨_, rfl⟩
    rw [← hLe] at hL k1 k2
    cases hok : okP h l ts
    case false =>
      have hd : decide (0 ≤ L.1) = true := decide_eq_true (k2 hok)
      have hres : canE h l n f ts = false := by cases f <;> simp [canE, hok]
      rw [hres]
      simp only [go_sem, Nat.reduceEqDiff, Nat.reduceAdd, Nat.reduceLT, Nat.reduceLeDiff, reduceIte, and_self, decide_true, decide_false, beq_self_eq_true, HCells, HEta, I_len, hto, WB26, snSs, hotSs, snI, hotI, WVH_eq hW, WB59, snH, hotH, WVH_eq hL, true_and, hd]
    have hd : decide (0 ≤ L.1) = false := decide_eq_false (by have := k1.2 hok; omega)
    cases f with
    | zero =>
      have hres : canE h l n 0 ts = true := by simp [canE, hok]
      have he : ((ts.length : Int) == (l.length : Int)) = true := by simp; omega
      rw [hres]
      simp only [go_sem, Nat.reduceEqDiff, Nat.reduceAdd, Nat.reduceLT, Nat.reduceLeDiff, reduceIte, and_self, decide_true, decide_false, beq_self_eq_true, HCells, HEta, I_len, hto, WB26, snSs, hotSs, snI, hotI, WVH_eq hW, WB59, snH, hotH, WVH_eq hL, true_and, hd, Ss_len, he]
    | succ f =>
      have hres : canE h l n (f + 1) ts = (List.range n).any fun t : Nat => canE h l n f (ts ++ [(t : Int)]) := by simp [canE, hok]
      have he : ((ts.length : Int) == (l.length : Int)) = false := by rw [beq_eq_false_iff_ne]; omega
      rw [hres]
      simp only [go_sem, Nat.reduceEqDiff, Nat.reduceAdd, Nat.reduceLT, Nat.reduceLeDiff, reduceIte, and_self, decide_true, decide_false, beq_self_eq_true, HCells, HEta, I_len, hto, WB26, snSs, hotSs, snI, hotI, WVH_eq hW, WB59, snH, hotH, WVH_eq hL, true_and, hd, Ss_len, he]
      refine WL_inv (α := Nat) (fun k e mm => e 1 = encSs l ∧ e 2 = encI ts ∧ e 3 = I64 n ∧ e 4 = .ptr 0 0 0 ∧ e 11 = I64 k ∧ k ≤ n ∧ (∀ j : Nat, j < k → canE h l n f (ts ++ [(j : Int)]) = false) ∧ ∃ tk, mm = ⟨[.live [encH h] 8], tk⟩) (fun k => n - k) 0 ?_ ?_
      · simp only [go_sem, Nat.reduceEqDiff, Nat.reduceAdd, Nat.reduceLT, Nat.reduceLeDiff, reduceIte, and_self, decide_true, decide_false, beq_self_eq_true]
        exact ⟨trivial, trivial, trivial, trivial, rfl, Nat.zero_le _, fun j hj => by omega, _, rfl⟩
      rintro k e mm ⟨g1, g2, g3, g4, g11, hkn, hno, tk, rfl⟩
      by_cases hlt : k < n
      case neg =>
        obtain rfl : k = n := by omega
        have hany : ((List.range k).any fun t : Nat => canE h l k f (ts ++ [(t : Int)])) = false := List.any_eq_false.2 fun t ht => by rw [hno t (List.mem_range.1 ht)]; simp
        rw [hany]
        simp only [go_sem, Nat.reduceEqDiff, Nat.reduceAdd, Nat.reduceLT, Nat.reduceLeDiff, reduceIte, and_self, decide_true, decide_false, beq_self_eq_true, g1, g2, g3, g4, g11, dec_ge (Nat.le_refl k)]
      have ih := can_ok hH hl hR n hn f (ts ++ [(k : Int)]) (by simp; omega)
      obtain ⟨w1, tk1, w2, tk2, a1, a2⟩ := appTs [.live [encH h] 8] tk ts (k : Int) (by omega)
      cases hc : canE h l n f (ts ++ [(k : Int)])
      · rw [hc] at ih
        simp only [go_sem, Nat.reduceEqDiff, Nat.reduceAdd, Nat.reduceLT, Nat.reduceLeDiff, reduceIte, and_self, decide_true, decide_false, beq_self_eq_true, g1, g2, g3, g4, g11, dec_lt hlt, HCells, HEta, a1, a2, apart_ps, WB60, snH, hotH, snSs, hotSs, snIt, hotIt, WVH_eq ih, true_and, wrap_n1 k (by omega)]
        refine Nx_of (k + 1) (by show n - (k + 1) < n - k; omega) ?_
        simp only [go_sem, Nat.reduceEqDiff, Nat.reduceAdd, Nat.reduceLT, Nat.reduceLeDiff, reduceIte, and_self, decide_true, decide_false, beq_self_eq_true, g1, g2, g3, g4]
        exact ⟨trivial, trivial, trivial, trivial, trivial, hlt, fun j hj => by
          by_cases hjk : j = k
          · subst hjk; exact hc
          · exact hno j (by omega), _, rfl⟩
      · rw [hc] at ih
        have hany : ((List.range n).any fun t : Nat => canE h l n f (ts ++ [(t : Int)])) = true := List.any_eq_true.2 ⟨k, List.mem_range.2 hlt, hc⟩
        rw [hany]
        simp only [go_sem, Nat.reduceEqDiff, Nat.reduceAdd, Nat.reduceLT, Nat.reduceLeDiff, reduceIte, and_self, decide_true, decide_false, beq_self_eq_true, g1, g2, g3, g4, g11, dec_lt hlt, HCells, HEta, a1, a2, apart_ps, WB60, snH, hotH, snSs, hotSs, snIt, hotIt, WVH_eq ih, true_and]
theorem nilI : AV.sl [] .unk = encI [] := rfl
theorem can_nil {h : Hs} (hH : HV h) {l : List Sl} (hl : l.length ≤ 40) (hR : ∀ s ∈ l, RS s) (n : Nat) (hn : n ≤ 1000) : RV ft 60 [encH h, encSs l, encI [], I64 n] (.bool (feas h n l)) := by
  have := can_ok hH hl hR n hn l.length [] (by simp)
  rwa [canE_feas] at this
theorem CheckAssign_ok (h : Hs) (l : List Sl) : RV ft 38 [encH h, encSs l] (I64 (asgQ h l).2) := by
  refine RV_of ft38 rfl ?_
  simp only [c38, r38]
  unfold asgQ
  by_cases hc : chk h l = 0
  case neg =>
    rw [if_neg hc]
    simp only [go_sem, Nat.reduceEqDiff, Nat.reduceAdd, Nat.reduceLT, Nat.reduceLeDiff, reduceIte, and_self, decide_true, decide_false, beq_self_eq_true, HCells, HEta, WB27, snH, hotH, snSs, hotSs, WVH_eq (CheckR_ok h l), chk_ne hc, true_and]
  rw [if_pos hc]
  have hV := chk_0.1 hc
  have hl12 := hV.len
  have t0 := hV.H.t0
  have t1 := hV.H.t1
  have hcan := can_nil hV.H (l := l) (by omega) hV.rs h.teams.toNat (by omega)
  rw [show ((h.teams.toNat : Nat) : Int) = h.teams by omega] at hcan
  unfold feas at hcan
  cases hs : asg h h.teams.toNat l zeroI zeroI with
  | none =>
    rw [hs] at hcan
    simp only [go_sem, Nat.reduceEqDiff, Nat.reduceAdd, Nat.reduceLT, Nat.reduceLeDiff, reduceIte, and_self, decide_true, decide_false, beq_self_eq_true, HCells, HEta, WB27, snH, hotH, snSs, hotSs, WVH_eq (CheckR_ok h l), chk_eq hc, true_and, nilI, WB60, snI, hotI, WVH_eq hcan, Option.isSome_none]
  | some ts =>
    rw [hs] at hcan
    simp only [go_sem, Nat.reduceEqDiff, Nat.reduceAdd, Nat.reduceLT, Nat.reduceLeDiff, reduceIte, and_self, decide_true, decide_false, beq_self_eq_true, HCells, HEta, WB27, snH, hotH, snSs, hotSs, WVH_eq (CheckR_ok h l), chk_eq hc, true_and, nilI, WB60, snI, hotI, WVH_eq hcan, Option.isSome_some]
theorem FewestR_ok (h : Hs) (l : List Sl) : RV ft 37 [encH h, encSs l] (.tup [I64 (fewQ h l).1, I64 (fewQ h l).2]) := by
  refine RV_of ft37 rfl ?_
  simp only [c37, r37]
  unfold fewQ
  by_cases hc : chk h l = 0
  case neg =>
    rw [if_neg hc]
    simp only [go_sem, Nat.reduceEqDiff, Nat.reduceAdd, Nat.reduceLT, Nat.reduceLeDiff, reduceIte, and_self, decide_true, decide_false, beq_self_eq_true, HCells, HEta, WB27, snH, hotH, snSs, hotSs, WVH_eq (CheckR_ok h l), chk_ne hc, true_and]
  rw [if_pos hc]
  have hV := chk_0.1 hc
  have hl12 := hV.len
  simp only [go_sem, Nat.reduceEqDiff, Nat.reduceAdd, Nat.reduceLT, Nat.reduceLeDiff, reduceIte, and_self, decide_true, decide_false, beq_self_eq_true, HCells, HEta, WB27, snH, hotH, snSs, hotSs, WVH_eq (CheckR_ok h l), chk_eq hc, true_and]
  refine WL_inv (α := Nat × Nat) (fun q e mm => e 1 = encSs l ∧ e 2 = .ptr 0 0 0 ∧ e 7 = I64 q.1 ∧ q.1 + q.2 = 5 ∧ fewGo h l q.2 q.1 = fewGo h l 4 1 ∧ mm = ⟨[.live [encH h] 8], []⟩) (fun q => q.2) (1, 4) ?_ ?_
  · simp only [go_sem, Nat.reduceEqDiff, Nat.reduceAdd, Nat.reduceLT, Nat.reduceLeDiff, reduceIte, and_self, decide_true, decide_false, beq_self_eq_true]
    ((repeat' apply And.intro) <;> first | trivial | rfl | omega | assumption)
  rintro ⟨k, f⟩ e mm ⟨g1, g2, g7, hkf, hq, rfl⟩
  dsimp only at g7 hkf hq
  cases f with
  | zero =>
    have d1 : decide ((k : Int) ≤ 4) = false := decide_eq_false (by omega)
    simp only [go_sem, Nat.reduceEqDiff, Nat.reduceAdd, Nat.reduceLT, Nat.reduceLeDiff, reduceIte, and_self, decide_true, decide_false, beq_self_eq_true, g1, g2, g7, d1]
    rw [← hq]; rfl
  | succ f =>
    have d1 : decide ((k : Int) ≤ 4) = true := decide_eq_true (by omega)
    have hcan := can_nil hV.H (l := l) (by omega) hV.rs k (by omega)
    rw [fewGo] at hq
    cases hs : feas h k l
    · rw [hs] at hcan hq
      simp only [go_sem, Nat.reduceEqDiff, Nat.reduceAdd, Nat.reduceLT, Nat.reduceLeDiff, reduceIte, and_self, decide_true, decide_false, beq_self_eq_true, g1, g2, g7, d1, HCells, HEta, nilI, WB60, snH, hotH, snSs, hotSs, snI, hotI, WVH_eq hcan, true_and, wrap_n1 k (by omega)]
      refine Nx_of (k + 1, f) (by simp) ?_
      simp only [go_sem, Nat.reduceEqDiff, Nat.reduceAdd, Nat.reduceLT, Nat.reduceLeDiff, reduceIte, and_self, decide_true, decide_false, beq_self_eq_true, g1, g2]
      exact ⟨trivial, trivial, trivial, by omega, by simpa using hq, trivial⟩
    · rw [hs, if_pos rfl] at hq
      simp only [go_sem, Nat.reduceEqDiff, Nat.reduceAdd, Nat.reduceLT, Nat.reduceLeDiff, reduceIte, and_self, decide_true, decide_false, beq_self_eq_true, g1, g2, g7, d1, HCells, HEta, nilI, WB60, snH, hotH, snSs, hotSs, snI, hotI, WVH_eq hcan, hs, true_and]
      rw [← hq]
end Go.Ab.T
end
