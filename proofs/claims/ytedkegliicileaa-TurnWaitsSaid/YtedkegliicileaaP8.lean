/-
  A part of the proofs over this seat.
  (The texts KzM7 KzK16, one behind the other.)
-/
import Derived.Test.YtedkegliicileaaP5
import Derived.Test.YtedkegliicileaaP7
import Derived.Test.YtedkegliicileaaP6
set_option linter.unusedSimpArgs false
set_option linter.unusedVariables false
set_option linter.unusedSectionVars false
section
namespace Go.Ab.T
/-! ### The first minute at which the foyer is too full -/
/-- The reference's way: the minutes at which crowds come, in their order. -/
def crowdRef (h : Hs) (l : List Sl) : List Sl → Int
  | [] => -1
  | s :: r => if h.foyer < waitE h true l (comeOf h.early s) then comeOf h.early s else crowdRef h l r
theorem crowdRef_spec (h : Hs) (l : List Sl) : ∀ (r : List Sl), (crowdRef h l r = -1 ∧ ∀ s ∈ r, waitE h true l (comeOf h.early s) ≤ h.foyer) ∨
    ∃ (i : Nat) (s : Sl), r[i]? = some s ∧ crowdRef h l r = comeOf h.early s ∧ h.foyer < waitE h true l (comeOf h.early s) ∧ ∀ (j : Nat) t, j < i → r[j]? = some t → waitE h true l (comeOf h.early t) ≤ h.foyer
  | [] => .inl ⟨rfl, fun s hs => by simp at hs⟩
  | x :: r => by
    unfold crowdRef
    by_cases hx : h.foyer < waitE h true l (comeOf h.early x)
    · rw [if_pos hx]; exact .inr ⟨0, x, rfl, rfl, hx, fun j t hj => by omega⟩
    · rw [if_neg hx]
      rcases crowdRef_spec h l r with ⟨h1, h2⟩ | ⟨i, s, h1, h2, h3, h4⟩
      · refine .inl ⟨h1, fun s hs => ?_⟩
        rcases List.mem_cons.1 hs with rfl | hs
        · omega
        · exact h2 s hs
      · refine .inr ⟨i + 1, s, by simpa using h1, h2, h3, fun j t hj ht => ?_⟩
        cases j with
        | zero => simp at ht; subst ht; omega
        | succ j => exact h4 j t (by omega) (by simpa using ht)
theorem waitE_zero {h : Hs} {l : List Sl} (hi : Bool) {m : Int} (hc : ∀ s ∈ l, m < comeOf h.early s) : waitE h hi l m = 0 := by
  unfold waitE
  suffices ∀ rd id, waitS h hi m l rd id = 0 from this zeroI zeroI
  induction l with
  | nil => intro rd id; rfl
  | cons s l ih =>
    intro rd id
    rw [waitS, ih (fun s hs => hc s (List.mem_cons_of_mem _ hs))]
    have := hc s (by simp)
    unfold wait1; rw [if_neg (by omega)]; rfl
/-- More wait than before only when a crowd comes. -/
theorem crowd_come {h : Hs} {l : List Sl} (hV : LV h l) {m : Int} (h0 : 0 ≤ m) (hm : h.foyer < waitE h true l m) (hlt : ∀ k, 0 ≤ k → k < m → waitE h true l k ≤ h.foyer) : ∃ s ∈ l, comeOf h.early s = m := by
  refine Classical.byContradiction fun hn => ?_
  have hno : ∀ s ∈ l, comeOf h.early s ≠ m := fun s hs he => hn ⟨s, hs, he⟩
  by_cases hm0 : m = 0
  · subst hm0
    have := waitE_zero (h := h) (l := l) true (m := 0) fun s hs => by have := (come_le hV hs).1; have := hno s hs; omega
    have := hV.H.f0
    omega
  · have h1 := hlt (m - 1) (by omega) (by omega)
    have h2 := waitE_time hV true (m := m - 1) (m' := m) (by omega) fun s hs h3 => by have := hno s hs; omega
    omega
theorem come_mono {h : Hs} {l : List Sl} (hV : LV h l) {i j : Nat} {a b : Sl} (hij : i < j) (ha : l[i]? = some a) (hb : l[j]? = some b) : comeOf h.early a ≤ comeOf h.early b := by
  have := (hV.asc i j a b hij ha hb).1
  unfold comeOf; omega
theorem crowd_eq {h : Hs} {l : List Sl} (hV : LV h l) : crowdRef h l l = crowdE h l := by
  rcases crowd_spec hV with ⟨h1, h2⟩ | ⟨h1, h2, h3, h4⟩
  · rcases crowdRef_spec h l l with ⟨g1, _⟩ | ⟨i, s, g1, _, g3, _⟩
    · rw [g1, h1]
    · have := h2 _ (come_le hV (List.mem_of_getElem? g1)).1
      omega
  · obtain ⟨t, ht, htc⟩ := crowd_come hV h1 h3 h4
    rcases crowdRef_spec h l l with ⟨g1, g2⟩ | ⟨i, s, g1, g2, g3, g4⟩
    · have := g2 t ht; rw [htc] at this; omega
    · have hsc := come_le hV (List.mem_of_getElem? g1)
      have hge : crowdE h l ≤ comeOf h.early s := by
        refine Classical.byContradiction fun hn => ?_
        have := h4 _ hsc.1 (by omega); omega
      rw [List.mem_iff_getElem?] at ht
      obtain ⟨j, hj⟩ := ht
      have hij : ¬j < i := fun hji => by have := g4 j t hji hj; rw [htc] at this; omega
      rw [g2]
      by_cases he : j = i
      · subst he; rw [g1] at hj; cases hj; exact htc
      · have := come_mono hV (show i < j by omega) g1 hj
        omega
end Go.Ab.T
end

section
namespace Go.Ab.T
set_option maxRecDepth 8000
set_option maxHeartbeats 4000000
theorem WaitsB_ok {h : Hs} {l : List Sl} (hV : LV h l) (hi : Bool) {m : Int} (m0 : 0 ≤ m) (m1 : m ≤ 9999) : RV ft 23 [encH h, encSs l, encX (l.map fun s => s.runs.of hi) (l.map fun _ => h.clean.of hi) (rateOf h hi), I64 m] (I64 (waitE h hi l m)) := by
  have hr := rate_b hV.H hi
  have hl12 := hV.len
  have := Waits_ok h hV.H l (l.map fun s => s.runs.of hi) (l.map fun _ => h.clean.of hi) (rateOf h hi) m (by omega) (by simp) (by simp) hr.1 hr.2 (by
    rw [mkIts_of]; intro x hx
    obtain ⟨s, hs, rfl⟩ := List.mem_map.1 hx
    exact (hV.rs s hs).ib hV.H hi) m0 m1 (by
    rw [mkIts_of]; intro e he
    rw [List.mem_iff_getElem?] at he
    obtain ⟨i, hi'⟩ := he
    have hlt : i < l.length := by have := (List.getElem?_eq_some_iff.1 hi').1; rw [sim_len, List.length_map] at this; exact this
    have := simH_bd2 hV.H hi hV.rs (Bd_zero (c := 2000) (by omega)) (Bd_zero (by omega)) (by omega) i e hi'
    omega)
  rw [mkIts_of] at this
  rw [waitE_eq]
  exact this
theorem WaitingR_ok (h : Hs) (l : List Sl) (m : Int) : RV ft 35 [encH h, encSs l, I64 m] (.tup [.agg [I64 (waitQ h l m).1.1, I64 (waitQ h l m).1.2], I64 (waitQ h l m).2]) := by
  refine RV_of ft35 rfl ?_
  simp only [c35, r35]
  unfold waitQ
  by_cases hc : chk h l = 0
  case neg =>
    rw [if_neg hc]
    simp only [go_sem, Nat.reduceEqDiff, Nat.reduceAdd, Nat.reduceLT, Nat.reduceLeDiff, reduceIte, and_self, decide_true, decide_false, beq_self_eq_true, HCells, HEta, WB27, snH, hotH, snSs, hotSs, WVH_eq (CheckR_ok h l), chk_ne hc, true_and]
  rw [if_pos hc]
  have hV := chk_0.1 hc
  have hl12 := hV.len
  cases hm : inR m 0 9999
  · simp only [go_sem, Nat.reduceEqDiff, Nat.reduceAdd, Nat.reduceLT, Nat.reduceLeDiff, reduceIte, and_self, decide_true, decide_false, beq_self_eq_true, HCells, HEta, WB27, snH, hotH, snSs, hotSs, WVH_eq (CheckR_ok h l), chk_eq hc, true_and, WB40, WVH_eq (within_ok _ _ _), hm]
    rfl
  obtain ⟨m0, m1⟩ := inR_iff.1 hm
  simp only [go_sem, Nat.reduceEqDiff, Nat.reduceAdd, Nat.reduceLT, Nat.reduceLeDiff, reduceIte, and_self, decide_true, decide_false, beq_self_eq_true, HCells, HEta, WB27, snH, hotH, snSs, hotSs, WVH_eq (CheckR_ok h l), chk_eq hc, true_and, WB40, WVH_eq (within_ok _ _ _), hm, WB58, WVH_eq (bound_ok h l true (by omega)), WVH_eq (bound_ok h l false (by omega)), WB23, snX, hotX, WVH_eq (WaitsB_ok hV true m0 m1), WVH_eq (WaitsB_ok hV false m0 m1)]
theorem CrowdedR_ok (h : Hs) (l : List Sl) : RV ft 36 [encH h, encSs l] (.tup [I64 (crowdQ h l).1, I64 (crowdQ h l).2]) := by
  refine RV_of ft36 rfl ?_
  simp only [c36, r36]
  unfold crowdQ
  by_cases hc : chk h l = 0
  case neg =>
    rw [if_neg hc]
    simp only [go_sem, Nat.reduceEqDiff, Nat.reduceAdd, Nat.reduceLT, Nat.reduceLeDiff, reduceIte, and_self, decide_true, decide_false, beq_self_eq_true, HCells, HEta, WB27, snH, hotH, snSs, hotSs, WVH_eq (CheckR_ok h l), chk_ne hc, true_and]
  rw [if_pos hc]
  have hV := chk_0.1 hc
  have hl12 := hV.len
  rw [← crowd_eq hV]
  simp only [go_sem, Nat.reduceEqDiff, Nat.reduceAdd, Nat.reduceLT, Nat.reduceLeDiff, reduceIte, and_self, decide_true, decide_false, beq_self_eq_true, HCells, HEta, WB27, snH, hotH, snSs, hotSs, WVH_eq (CheckR_ok h l), chk_eq hc, true_and, WB58, WVH_eq (bound_ok h l true (by omega)), XCells, XEta, solidI, cellsI]
  refine WL_inv (α := Nat × List Sl) (fun q e mm => e 1 = encSs l ∧ e 2 = .ptr 0 0 0 ∧ e 7 = .ptr 1 0 0 ∧ e 8 = I64 q.1 ∧ l.drop q.1 = q.2 ∧ crowdRef h l q.2 = crowdRef h l l ∧ mm = ⟨[.live [encH h] 8, .live [encX (l.map fun s => s.runs.of true) (l.map fun _ => h.clean.of true) (rateOf h true)] 3], []⟩) (fun q => q.2.length) (0, l) ?_ ?_
  · simp only [go_sem, Nat.reduceEqDiff, Nat.reduceAdd, Nat.reduceLT, Nat.reduceLeDiff, reduceIte, and_self, decide_true, decide_false, beq_self_eq_true]
    ((repeat' apply And.intro) <;> first | trivial | rfl | omega | assumption)
  rintro ⟨k, r⟩ e mm ⟨g1, g2, g7, g8, hd, hq, rfl⟩
  dsimp only at g8 hd hq
  cases r with
  | nil =>
    have := drop_nil hd
    simp only [go_sem, Nat.reduceEqDiff, Nat.reduceAdd, Nat.reduceLT, Nat.reduceLeDiff, reduceIte, and_self, decide_true, decide_false, beq_self_eq_true, g1, g2, g7, g8, Ss_len, dec_ge this]
    rw [← hq]; rfl
  | cons x r =>
    obtain ⟨hk, hd2, hlt⟩ := drop_cons hd
    have hxm := List.mem_of_getElem? hk
    have x0 := hV.b0 x hxm
    have x1 := hV.b1 x hxm
    have e0 := hV.H.e0
    have e1 := hV.H.e1
    have w1 : IntKind.i64.wrap (x.bg - h.early) = x.bg - h.early := wrap_i64 _ (by omega) (by omega)
    have hco : max 0 (x.bg - h.early) = comeOf h.early x := rfl
    have hcb := come_le hV hxm
    have hW := WaitsB_ok hV true hcb.1 (show comeOf h.early x ≤ 9999 by omega)
    rw [crowdRef] at hq
    cases hd1 : decide (h.foyer < waitE h true l (comeOf h.early x))
    · rw [if_neg (of_decide_eq_false hd1)] at hq
      simp only [go_sem, Nat.reduceEqDiff, Nat.reduceAdd, Nat.reduceLT, Nat.reduceLeDiff, reduceIte, and_self, decide_true, decide_false, beq_self_eq_true, g1, g2, g7, g8, Ss_len, dec_lt hlt, Ss_idx _ hk, SCells, HCells, HEta, XCells, XEta, Nat.zero_add, w1, hco, WB23, snH, hotH, snSs, hotSs, snX, hotX, WVH_eq hW, true_and, hd1, wrap_n1 k (by omega)]
      refine Nx_of (k + 1, r) (by simp) ?_
      simp only [go_sem, Nat.reduceEqDiff, Nat.reduceAdd, Nat.reduceLT, Nat.reduceLeDiff, reduceIte, and_self, decide_true, decide_false, beq_self_eq_true, g1, g2, g7]
      exact ⟨trivial, trivial, trivial, trivial, hd2, hq, trivial⟩
    · rw [if_pos (of_decide_eq_true hd1)] at hq
      simp only [go_sem, Nat.reduceEqDiff, Nat.reduceAdd, Nat.reduceLT, Nat.reduceLeDiff, reduceIte, and_self, decide_true, decide_false, beq_self_eq_true, g1, g2, g7, g8, Ss_len, dec_lt hlt, Ss_idx _ hk, SCells, HCells, HEta, XCells, XEta, Nat.zero_add, w1, hco, WB23, snH, hotH, snSs, hotSs, snX, hotX, WVH_eq hW, true_and, hd1]
      rw [← hq]
theorem ap0 (bl : List Blk) (tk : List (Nat × Nat)) (l : List Sl) (hl : l.length ≤ 1073741824) : appendAt ⟨bl, tk⟩ false (.sl [] .tight) (encSs l) 47 6 48 = some (cpV tk.length l, ⟨bl, tk ++ cpT l⟩) := by
  have h1 : hdSz (l.map encS) 6 = true := hdSz_map' encS 6 l fun _ => rfl
  have h2 : (0 + l.length) * (48 + 1) ≤ limit := by unfold limit; omega
  cases l with
  | nil => simp [appendAt, elemsSs, cpV, cpT, appTk, hdSz, limit]
  | cons x r =>
    simp only [appendAt, elemsSs, h1, List.length_nil, List.length_map, h2, hdSz, true_and, appTk, cpV, cpT]
    simp [List.length_cons, SCells]
theorem apart_psl (a b c : Nat) (es : List AV) (t : Tk) : apart (.ptr a b c) (.sl es t) = true := rfl
theorem NextR_ok (h : Hs) (l : List Sl) (s : Sl) : RV ft 39 [encH h, encSs l, encS s] (.tup [I64 (nextE h l s).1, I64 (nextE h l s).2]) := by
  refine RV_of ft39 rfl ?_
  simp only [c39, r39]
  unfold nextE
  by_cases hc : chk h l = 0
  case neg =>
    rw [if_neg hc]
    simp only [go_sem, Nat.reduceEqDiff, Nat.reduceAdd, Nat.reduceLT, Nat.reduceLeDiff, reduceIte, and_self, decide_true, decide_false, beq_self_eq_true, HCells, HEta, SCells, WB27, snH, hotH, snSs, hotSs, WVH_eq (CheckR_ok h l), chk_ne hc, true_and]
  rw [if_pos hc]
  have hV := chk_0.1 hc
  have hH := hV.H
  have hl12 := hV.len
  cases hs : slotOK h s
  case false =>
    rw [if_pos (.inr rfl)]
    simp only [go_sem, Nat.reduceEqDiff, Nat.reduceAdd, Nat.reduceLT, Nat.reduceLeDiff, reduceIte, and_self, decide_true, decide_false, beq_self_eq_true, HCells, HEta, SCells, SEta, WB27, snH, hotH, snSs, hotSs, WVH_eq (CheckR_ok h l), chk_eq hc, true_and, WB28, snS, hotS, WVH_eq (IsSlot_ok h s hH), hs]
  cases h12 : decide ((12 : Int) ≤ (l.length : Int))
  case true =>
    have : l.length = 12 := by have := of_decide_eq_true h12; omega
    rw [if_pos (.inl this)]
    simp only [go_sem, Nat.reduceEqDiff, Nat.reduceAdd, Nat.reduceLT, Nat.reduceLeDiff, reduceIte, and_self, decide_true, decide_false, beq_self_eq_true, HCells, HEta, SCells, SEta, WB27, snH, hotH, snSs, hotSs, WVH_eq (CheckR_ok h l), chk_eq hc, true_and, WB28, snS, hotS, WVH_eq (IsSlot_ok h s hH), hs, Ss_len, h12]
  have hl11 : l.length < 12 := by have := of_decide_eq_false h12; omega
  rw [if_neg (fun h => h.elim (fun h => by omega) (by simp))]
  have hS := slotOK_iff.1 hs
  obtain ⟨z, hz⟩ : ∃ z : Nat, z = 2001 := ⟨_, rfl⟩
  have hce : nextGo h l s 2001 0 = nextGo h l s z 0 := by rw [hz]
  rw [hce]
  have hS2 : ∀ b : Int, SV h { s with bg := b } := fun b => ⟨hS.s0, hS.s1, hS.r0, hS.r1, hS.r2, hS.c0, hS.c1, hS.t0, hS.t1⟩
  simp only [go_sem, Nat.reduceEqDiff, Nat.reduceAdd, Nat.reduceLT, Nat.reduceLeDiff, reduceIte, and_self, decide_true, decide_false, beq_self_eq_true, HCells, HEta, SCells, SEta, WB27, snH, hotH, snSs, hotSs, WVH_eq (CheckR_ok h l), chk_eq hc, true_and, WB28, snS, hotS, WVH_eq (IsSlot_ok h s hH), hs, Ss_len, h12]
  refine WL_inv (α := Nat × Nat) (fun q e mm => e 1 = encSs l ∧ e 3 = .ptr 0 0 0 ∧ e 5 = .ptr 1 0 0 ∧ e 9 = I64 q.1 ∧ q.1 + q.2 = z ∧ nextGo h l s q.2 q.1 = nextGo h l s z 0 ∧ ∃ tk s1, mm = ⟨[.live [encH h] 8, .live [encS s1] 6], tk⟩ ∧ ∀ m, writeCells (encS s1) 1 [I64 m] = some (encS { s with bg := m })) (fun q => q.2) (0, z) ?_ ?_
  · simp only [go_sem, Nat.reduceEqDiff, Nat.reduceAdd, Nat.reduceLT, Nat.reduceLeDiff, reduceIte, and_self, decide_true, decide_false, beq_self_eq_true]
    exact ⟨trivial, trivial, trivial, rfl, by omega, rfl, _, s, rfl, fun _ => rfl⟩
  rintro ⟨n, f⟩ e mm ⟨g1, g3, g5, g9, hkf, hq, tk, s1, rfl, hs1⟩
  dsimp only at g9 hkf hq
  cases f with
  | zero =>
    have d1 : decide ((n : Int) ≤ 2000) = false := decide_eq_false (by omega)
    simp only [go_sem, Nat.reduceEqDiff, Nat.reduceAdd, Nat.reduceLT, Nat.reduceLeDiff, reduceIte, and_self, decide_true, decide_false, beq_self_eq_true, g1, g3, g5, g9, d1]
    rw [← hq]; rfl
  | succ f =>
    have d1 : decide ((n : Int) ≤ 2000) = true := decide_eq_true (by omega)
    obtain ⟨s2, hs2⟩ : ∃ s2 : Sl, s2 = { s with bg := (n : Int) } := ⟨_, rfl⟩
    have hw := hs1 (n : Int)
    have hw3 : ∀ m, writeCells (encS s2) 1 [I64 m] = some (encS { s with bg := m }) := fun _ => by rw [hs2]; rfl
    rw [← hs2] at hw
    have hbg : s2.bg = n := by rw [hs2]
    have hSs2 : SV h s2 := by rw [hs2]; exact hS2 n
    have hnx : nextOK h l s n = nextOK h l s2 s2.bg := by rw [hs2]; rfl
    rw [nextGo, hnx] at hq
    obtain ⟨tk', happ⟩ := cp_app [.live [encH h] 8, .live [encS s2] 6] tk l s2 .tight (by omega)
    have hap0 := fun bl => ap0 bl tk l (by omega)
    have hck := CheckR_ok h (l ++ [s2])
    by_cases hc2 : chk h (l ++ [s2]) = 0
    · have hV2 := chk_0.1 hc2
      have hl2 : (l ++ [s2]).length ≤ 40 := by simp; omega
      have hRu := RunB_ok h hH (l ++ [s2]) true hl2 hV2.rs
      have hq2 : (simH h true (l ++ [s2]) zeroI zeroI)[l.length]? = some (evH h true s2 (stL h true l zeroI zeroI).1 (stL h true l zeroI zeroI).2) := by rw [simH_app, ← simH_len h true l zeroI zeroI]; simp
      have hidx := fun m => Es_idx m hq2
      have h00 : ((0 : Int) != 0) = false := rfl
      rw [hc2] at hck
      cases hok : nextOK h l s2 s2.bg
      · have hlt := next_late hV2 hok
        rw [hok] at hq
        generalize hE : evH h true s2 (stL h true l zeroI zeroI).1 (stL h true l zeroI zeroI).2 = E at *
        have hne : (E.start == (n : Int)) = false := by rw [beq_eq_false_iff_ne]; omega
        simp only [go_sem, Nat.reduceEqDiff, Nat.reduceAdd, Nat.reduceLT, Nat.reduceLeDiff, reduceIte, and_self, decide_true, decide_false, beq_self_eq_true, g1, g3, g5, g9, d1, hw, hap0, happ, chkAll_cons, apart_psl, SCells, SEta, HCells, HEta, snSst, hotSst, snSs, hotSs, WB27, snH, hotH, WVH_eq hck, true_and, h00, WB58, WVH_eq (bound_ok h (l ++ [s2]) true hl2), WB18, snX, hotX, WVH_eq hRu, Ss_len, hidx, ECells, Nat.zero_add, hne, wrap_n1 n (by omega)]
        refine Nx_of (n + 1, f) (by simp) ?_
        simp only [go_sem, Nat.reduceEqDiff, Nat.reduceAdd, Nat.reduceLT, Nat.reduceLeDiff, reduceIte, and_self, decide_true, decide_false, beq_self_eq_true, g1, g3, g5]
        exact ⟨trivial, trivial, trivial, trivial, by omega, by rw [← hq]; push_cast; rfl, _, s2, rfl, hw3⟩
      · have hst := (next_start hV2 hok).2
        rw [hok] at hq
        generalize hE : evH h true s2 (stL h true l zeroI zeroI).1 (stL h true l zeroI zeroI).2 = E at *
        have hne : (E.start == (n : Int)) = true := by rw [hst, hbg]; simp
        simp only [go_sem, Nat.reduceEqDiff, Nat.reduceAdd, Nat.reduceLT, Nat.reduceLeDiff, reduceIte, and_self, decide_true, decide_false, beq_self_eq_true, g1, g3, g5, g9, d1, hw, hap0, happ, chkAll_cons, apart_psl, SCells, SEta, HCells, HEta, snSst, hotSst, snSs, hotSs, WB27, snH, hotH, WVH_eq hck, true_and, h00, WB58, WVH_eq (bound_ok h (l ++ [s2]) true hl2), WB18, snX, hotX, WVH_eq hRu, Ss_len, hidx, ECells, Nat.zero_add, hne]
        rw [← hq]; rfl
    · have hno : nextOK h l s2 s2.bg = false := by
        cases hok : nextOK h l s2 s2.bg with
        | false => rfl
        | true =>
          unfold nextOK at hok
          rw [Bool.and_eq_true] at hok
          exact absurd (chk_0.2 (LV_app hV hl11 hSs2 (by omega) (by omega) hok.1)) hc2
      rw [hno] at hq
      simp only [go_sem, Nat.reduceEqDiff, Nat.reduceAdd, Nat.reduceLT, Nat.reduceLeDiff, reduceIte, and_self, decide_true, decide_false, beq_self_eq_true, g1, g3, g5, g9, d1, hw, hap0, happ, chkAll_cons, apart_psl, SCells, SEta, HCells, HEta, snSst, hotSst, snSs, hotSs, WB27, snH, hotH, WVH_eq hck, true_and, chk_ne hc2, wrap_n1 n (by omega)]
      refine Nx_of (n + 1, f) (by simp) ?_
      simp only [go_sem, Nat.reduceEqDiff, Nat.reduceAdd, Nat.reduceLT, Nat.reduceLeDiff, reduceIte, and_self, decide_true, decide_false, beq_self_eq_true, g1, g3, g5]
      exact ⟨trivial, trivial, trivial, trivial, by omega, by rw [← hq]; push_cast; rfl, _, s2, rfl, hw3⟩
theorem cells_cp (t : Nat) (l : List Sl) : (cpV t l).cells = [cpV t l] := rfl
theorem TurnNext_run (h : Hs) (l : List Sl) (s : Sl) : RV ft 12 [encH h, encSs l, encS s] (.bool true) := by
  refine RV_of ft12 rfl ?_
  simp only [c12, r12]
  cases hf : decide ((40 : Int) < (l.length : Int))
  case true => simp only [go_sem, Nat.reduceEqDiff, Nat.reduceAdd, Nat.reduceLT, Nat.reduceLeDiff, reduceIte, and_self, decide_true, decide_false, beq_self_eq_true, HCells, HEta, SCells, WB30, snSs, hotSs, WVH_eq (Far_ok l), hf, true_and, WB15, WVH_eq works_ok]
  have hf' := of_decide_eq_false hf
  have hN := Next_ok h l s
  have hR := NextR_ok h l s
  have e1 : ∀ a : Int, (a == a) = true := fun a => by simp
  simp only [go_sem, Nat.reduceEqDiff, Nat.reduceAdd, Nat.reduceLT, Nat.reduceLeDiff, reduceIte, and_self, decide_true, decide_false, beq_self_eq_true, HCells, HEta, SCells, SEta, WB30, snSs, hotSs, WVH_eq (Far_ok l), hf, true_and, WB20, copied_W l (by omega), cp_shift, cp_join, cp_snap, cp_hot, WB29, snH, hotH, snS, hotS, WVH_eq hN, WB39, WVH_eq hR, e1, WB15, WVH_eq works_ok]
theorem TurnWaits_run (h : Hs) (l : List Sl) (m : Int) : RV ft 10 [encH h, encSs l, I64 m] (.bool true) := by
  refine RV_of ft10 rfl ?_
  simp only [c10, r10]
  cases hf : decide ((40 : Int) < (l.length : Int))
  case true => simp only [go_sem, Nat.reduceEqDiff, Nat.reduceAdd, Nat.reduceLT, Nat.reduceLeDiff, reduceIte, and_self, decide_true, decide_false, beq_self_eq_true, HCells, HEta, WB30, snSs, hotSs, WVH_eq (Far_ok l), hf, true_and, WB15, WVH_eq works_ok]
  have hf' := of_decide_eq_false hf
  have h1 := Waiting_ok h l m
  have h2 := WaitingR_ok h l m
  have h3 := Crowded_ok h l
  have h4 := CrowdedR_ok h l
  have e1 : ∀ a : Int, (a == a) = true := fun a => by simp
  simp only [go_sem, Nat.reduceEqDiff, Nat.reduceAdd, Nat.reduceLT, Nat.reduceLeDiff, reduceIte, and_self, decide_true, decide_false, beq_self_eq_true, HCells, HEta, WB30, snSs, hotSs, WVH_eq (Far_ok l), hf, true_and, WB20, copied_W l (by omega), cp_shift, cp_join, cp_snap, cp_hot, WB21, snH, hotH, WVH_eq h1, WB35, WVH_eq h2, WB22, WVH_eq h3, WB36, WVH_eq h4, e1, Bool.false_eq_true, if_false, WB15, WVH_eq works_ok]
theorem TurnTimes_run (h : Hs) (l : List Sl) : RV ft 9 [encH h, encSs l] (.bool true) := by
  refine RV_of ft9 rfl ?_
  simp only [c9, r9]
  cases hf : decide ((40 : Int) < (l.length : Int))
  case true => simp only [go_sem, Nat.reduceEqDiff, Nat.reduceAdd, Nat.reduceLT, Nat.reduceLeDiff, reduceIte, and_self, decide_true, decide_false, beq_self_eq_true, HCells, HEta, WB30, snSs, hotSs, WVH_eq (Far_ok l), hf, true_and, WB15, WVH_eq works_ok]
  have hf' := of_decide_eq_false hf
  have h1 := Check_ok h l
  have h2 := CheckR_ok h l
  have h3 := Times_ok h l
  have h4 := TimesR_ok h l
  have h5 := Late_ok h l
  have h6 := LateR_ok h l
  have h7 := sameSlots_ok l (by omega)
  have e1 : ∀ a : Int, (a != a) = false := fun a => by simp
  have hlen : (tE h l).length < 4611686018427387904 := by
    unfold tE; split
    · rw [tz_len]; omega
    · simp
  simp only [go_sem, Nat.reduceEqDiff, Nat.reduceAdd, Nat.reduceLT, Nat.reduceLeDiff, reduceIte, and_self, decide_true, decide_false, beq_self_eq_true, HCells, HEta, WB30, snSs, hotSs, WVH_eq (Far_ok l), hf, true_and, WB20, copied_W l (by omega), cp_shift, cp_join, cp_snap, cp_hot, WB31, snH, hotH, WVH_eq h1, WB27, WVH_eq h2, WB16, WVH_eq h3, WB32, WVH_eq h4, WB17, WVH_eq h5, WB33, WVH_eq h6, e1, Ms_len]
  refine WL_inv (α := Nat × List (Ev × Ev)) (fun q e mm => e 1 = encSs l ∧ e 5 = cpV 0 l ∧ e 6 = encMs (tE h l) ∧ e 8 = encMs (tE h l) ∧ e 16 = I64 q.1 ∧ (tE h l).drop q.1 = q.2) (fun q => q.2.length) (0, tE h l) ?_ ?_
  · simp only [go_sem, Nat.reduceEqDiff, Nat.reduceAdd, Nat.reduceLT, Nat.reduceLeDiff, reduceIte, and_self, decide_true, decide_false, beq_self_eq_true]
    ((repeat' apply And.intro) <;> first | trivial | rfl | omega | assumption)
  rintro ⟨k, r⟩ e mm ⟨g1, g5, g6, g8, g16, hd⟩
  dsimp only at g16 hd
  cases r with
  | nil =>
    have := drop_nil hd
    simp only [go_sem, Nat.reduceEqDiff, Nat.reduceAdd, Nat.reduceLT, Nat.reduceLeDiff, reduceIte, and_self, decide_true, decide_false, beq_self_eq_true, g1, g5, g6, g8, g16, Ms_len, dec_ge this, WB34, cp_snap, cp_hot, snSs, hotSs, WVH_eq h7, true_and, WB15, WVH_eq works_ok]
  | cons p r =>
    obtain ⟨hk, hd2, hlt⟩ := drop_cons hd
    simp only [go_sem, Nat.reduceEqDiff, Nat.reduceAdd, Nat.reduceLT, Nat.reduceLeDiff, reduceIte, and_self, decide_true, decide_false, beq_self_eq_true, g1, g5, g6, g8, g16, Ms_len, dec_lt hlt, Ms_idx _ hk, MCells, MEta, eqM, if_true, wrap_n1 k (by omega)]
    refine Nx_of (k + 1, r) (by simp) ?_
    simp only [go_sem, Nat.reduceEqDiff, Nat.reduceAdd, Nat.reduceLT, Nat.reduceLeDiff, reduceIte, and_self, decide_true, decide_false, beq_self_eq_true, g1, g5, g6, g8]
    exact ⟨trivial, trivial, trivial, trivial, trivial, hd2⟩
end Go.Ab.T
end
