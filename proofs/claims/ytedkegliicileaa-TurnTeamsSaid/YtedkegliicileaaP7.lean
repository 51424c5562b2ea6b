/-
  A part of the proofs over this seat.
  (The texts KzK14 KzK15, one behind the other.)
-/
import Derived.Test.YtedkegliicileaaP3
set_option linter.unusedSimpArgs false
set_option linter.unusedVariables false
set_option linter.unusedSectionVars false
section
namespace Go.Ab.T
set_option maxRecDepth 8000
set_option maxHeartbeats 4000000
/-! ### The bounds as a case -/
def bV (t k : Nat) (es : List Int) : AV := .sl (es.map encN) (if k = 0 then .tight else .at t)
def bT (k : Nat) : List (Nat × Nat) := if k = 0 then [] else [(k, 3), (k, 3)]
def bT1 (k : Nat) : List (Nat × Nat) := if k = 0 then [(1, 3)] else [(k + 1, 3), (k, 3)]
theorem bV_cells (t k : Nat) (es : List Int) : (bV t k es).cells = [bV t k es] := rfl
theorem bV_solid (t k : Nat) (es : List Int) : (bV t k es).solid = true := rfl
theorem bV_apart (a b c t k : Nat) (es : List Int) : apart (.ptr a b c) (bV t k es) = true := rfl
theorem bV_apart2 (v : AV) (o t k : Nat) (es : List Int) : apart (.pv v o) (bV t k es) = true := rfl
theorem bV_snap (m : Mem) (q t k : Nat) (es : List Int) : snap m (q + 2) (bV t k es) = encI es := snIt m q es _
theorem hdI (l : List Int) : hdSz (l.map encN) 1 = true := hdSz_map' encN 1 l fun _ => rfl
theorem bV_app1 (bl : List Blk) (k : Nat) (es : List Int) (x : Int) (w : Tk) (hk : es.length = k) (hl : k ≤ 1000) : appendAt ⟨bl, bT k⟩ false (bV 0 k es) (.sl [I64 x] w) 3 1 8 = some (bV 0 (k + 1) (es ++ [x]), ⟨bl, bT1 k⟩) := by
  have h1 := hdI es
  have h3 : hdSz [I64 x] 1 = true := rfl
  cases k with
  | zero =>
    have : es = [] := List.eq_nil_of_length_eq_zero hk
    subst this; rfl
  | succ k =>
    have h2 : (es.length + 1) * (8 + 1) ≤ limit := by unfold limit; omega
    simp only [appendAt, Mem.elems, bV, bT, bT1, h1, h3, List.length_map, List.length_cons, List.length_nil, appTk, hk, Nat.succ_ne_zero, if_false]
    rw [hk] at h2
    simp [h2, encN]
theorem bV_app2 (bl : List Blk) (k : Nat) (es : List Int) (x : Int) (w : Tk) (hk : es.length = k) (hl : k ≤ 1000) : appendAt ⟨bl, bT1 k⟩ false (bV 1 k es) (.sl [I64 x] w) 3 1 8 = some (bV 1 (k + 1) (es ++ [x]), ⟨bl, bT (k + 1)⟩) := by
  have h1 := hdI es
  have h3 : hdSz [I64 x] 1 = true := rfl
  cases k with
  | zero =>
    have : es = [] := List.eq_nil_of_length_eq_zero hk
    subst this; rfl
  | succ k =>
    have h2 : (es.length + 1) * (8 + 1) ≤ limit := by unfold limit; omega
    simp only [appendAt, Mem.elems, bV, bT, bT1, h1, h3, List.length_map, List.length_cons, List.length_nil, appTk, hk, Nat.succ_ne_zero, if_false]
    rw [hk] at h2
    simp [h2, encN]
theorem bound_ok (h : Hs) (l : List Sl) (hi : Bool) (hl : l.length ≤ 40) : RV ft 58 [encH h, encSs l, .bool hi] (encX (l.map fun s => s.runs.of hi) (l.map fun _ => h.clean.of hi) (rateOf h hi)) := by
  refine RV_of ft58 rfl ?_
  simp only [c58, r58]
  have hnil : AV.sl [] .tight = bV 0 0 [] := rfl
  have hnil1 : AV.sl [] .tight = bV 1 0 [] := rfl
  have fin : ∀ (e : Nat → AV) (m : Mem), m = ⟨[Blk.live [encH h] 8, .live [.agg [bV 0 l.length (l.map fun s => s.runs.of hi), bV 1 l.length (l.map fun _ => h.clean.of hi), I64 (rateOf h hi)]] 3, .live [.agg [bV 0 l.length (l.map fun s => s.runs.of hi), bV 1 l.length (l.map fun _ => h.clean.of hi), I64 (rateOf h hi)]] 3], bT l.length⟩ →
      snap m 9 (.agg [bV 0 l.length (l.map fun s => s.runs.of hi), bV 1 l.length (l.map fun _ => h.clean.of hi), I64 (rateOf h hi)]) = encX (l.map fun s => s.runs.of hi) (l.map fun _ => h.clean.of hi) (rateOf h hi) := fun e m hm => by
    rw [snap_agg]
    simp only [List.map_cons, List.map_nil, bV_snap _ 6, snap_int]; rfl
  cases hi
  case false =>
    simp only [go_sem, Nat.reduceEqDiff, Nat.reduceAdd, Nat.reduceLT, Nat.reduceLeDiff, reduceIte, and_self, decide_true, decide_false, beq_self_eq_true, HCells, Nat.zero_add]
    refine WL_inv (α := Nat × List Sl) (fun q e mm => e 1 = encSs l ∧ e 2 = .bool false ∧ e 3 = .ptr 0 0 0 ∧ e 6 = .ptr 1 0 0 ∧ e 7 = .ptr 2 0 0 ∧ e 8 = I64 q.1 ∧ l.drop q.1 = q.2 ∧ q.1 ≤ l.length ∧ mm = ⟨[.live [encH h] 8, .live [.agg [.sl [] .tight, .sl [] .tight, I64 0]] 3, .live [.agg [bV 0 q.1 ((l.take q.1).map fun s => s.runs.of false), bV 1 q.1 ((l.take q.1).map fun _ => h.clean.of false), I64 (rateOf h false)]] 3], bT q.1⟩) (fun q => q.2.length) (0, l) ?_ ?_
    · simp only [go_sem, Nat.reduceEqDiff, Nat.reduceAdd, Nat.reduceLT, Nat.reduceLeDiff, reduceIte, and_self, decide_true, decide_false, beq_self_eq_true]
      exact ⟨trivial, trivial, trivial, trivial, trivial, rfl, trivial, Nat.zero_le _, rfl⟩
    rintro ⟨k, r⟩ e m ⟨g1, g2, g3, g6, g7, g8, hd, hkl, rfl⟩
    dsimp only at g8 hd hkl
    cases r with
    | nil =>
      have := drop_nil hd
      obtain rfl : k = l.length := by omega
      rw [List.take_length]
      simp only [go_sem, Nat.reduceEqDiff, Nat.reduceAdd, Nat.reduceLT, Nat.reduceLeDiff, reduceIte, and_self, decide_true, decide_false, beq_self_eq_true, g1, g2, g3, g6, g7, g8, Ss_len, dec_ge (Nat.le_refl _), bV_cells, bV_solid]
      exact fin e _ rfl
    | cons x r =>
      obtain ⟨hk, hd2, hlt⟩ := drop_cons hd
      have hR : ∀ (f : Sl → Int), ((l.take k).map f).length = k := fun f => by rw [List.length_map, List.length_take]; omega
      have a1 := fun bl x => bV_app1 bl k ((l.take k).map fun s => s.runs.of false) x .tight (hR _) (by omega)
      have a2 := fun bl x => bV_app2 bl k ((l.take k).map fun _ => h.clean.of false) x .tight (hR _) (by omega)
      simp only [go_sem, Nat.reduceEqDiff, Nat.reduceAdd, Nat.reduceLT, Nat.reduceLeDiff, reduceIte, and_self, decide_true, decide_false, beq_self_eq_true, g1, g2, g3, g6, g7, g8, Ss_len, dec_lt hlt, Ss_idx _ hk, SCells, HCells, Nat.zero_add, bV_cells, bV_solid, a1, a2, bV_apart, bV_apart2, wrap_n1 k (by omega)]
      refine Nx_of (k + 1, r) (by simp) ?_
      simp only [go_sem, Nat.reduceEqDiff, Nat.reduceAdd, Nat.reduceLT, Nat.reduceLeDiff, reduceIte, and_self, decide_true, decide_false, beq_self_eq_true, g1, g2, g3, g6, g7]
      exact ⟨trivial, trivial, trivial, trivial, trivial, trivial, hd2, by omega, by rw [take_snoc hk, List.map_append, List.map_append]; rfl⟩
  case true =>
    simp only [go_sem, Nat.reduceEqDiff, Nat.reduceAdd, Nat.reduceLT, Nat.reduceLeDiff, reduceIte, and_self, decide_true, decide_false, beq_self_eq_true, HCells, Nat.zero_add]
    refine WL_inv (α := Nat × List Sl) (fun q e mm => e 1 = encSs l ∧ e 2 = .bool true ∧ e 3 = .ptr 0 0 0 ∧ e 6 = .ptr 1 0 0 ∧ e 7 = .ptr 2 0 0 ∧ e 8 = I64 q.1 ∧ l.drop q.1 = q.2 ∧ q.1 ≤ l.length ∧ mm = ⟨[.live [encH h] 8, .live [.agg [.sl [] .tight, .sl [] .tight, I64 0]] 3, .live [.agg [bV 0 q.1 ((l.take q.1).map fun s => s.runs.of true), bV 1 q.1 ((l.take q.1).map fun _ => h.clean.of true), I64 (rateOf h true)]] 3], bT q.1⟩) (fun q => q.2.length) (0, l) ?_ ?_
    · simp only [go_sem, Nat.reduceEqDiff, Nat.reduceAdd, Nat.reduceLT, Nat.reduceLeDiff, reduceIte, and_self, decide_true, decide_false, beq_self_eq_true]
      exact ⟨trivial, trivial, trivial, trivial, trivial, rfl, trivial, Nat.zero_le _, rfl⟩
    rintro ⟨k, r⟩ e m ⟨g1, g2, g3, g6, g7, g8, hd, hkl, rfl⟩
    dsimp only at g8 hd hkl
    cases r with
    | nil =>
      have := drop_nil hd
      obtain rfl : k = l.length := by omega
      rw [List.take_length]
      simp only [go_sem, Nat.reduceEqDiff, Nat.reduceAdd, Nat.reduceLT, Nat.reduceLeDiff, reduceIte, and_self, decide_true, decide_false, beq_self_eq_true, g1, g2, g3, g6, g7, g8, Ss_len, dec_ge (Nat.le_refl _), bV_cells, bV_solid]
      exact fin e _ rfl
    | cons x r =>
      obtain ⟨hk, hd2, hlt⟩ := drop_cons hd
      have hR : ∀ (f : Sl → Int), ((l.take k).map f).length = k := fun f => by rw [List.length_map, List.length_take]; omega
      have a1 := fun bl x => bV_app1 bl k ((l.take k).map fun s => s.runs.of true) x .tight (hR _) (by omega)
      have a2 := fun bl x => bV_app2 bl k ((l.take k).map fun _ => h.clean.of true) x .tight (hR _) (by omega)
      simp only [go_sem, Nat.reduceEqDiff, Nat.reduceAdd, Nat.reduceLT, Nat.reduceLeDiff, reduceIte, and_self, decide_true, decide_false, beq_self_eq_true, g1, g2, g3, g6, g7, g8, Ss_len, dec_lt hlt, Ss_idx _ hk, SCells, HCells, Nat.zero_add, bV_cells, bV_solid, a1, a2, bV_apart, bV_apart2, wrap_n1 k (by omega)]
      refine Nx_of (k + 1, r) (by simp) ?_
      simp only [go_sem, Nat.reduceEqDiff, Nat.reduceAdd, Nat.reduceLT, Nat.reduceLeDiff, reduceIte, and_self, decide_true, decide_false, beq_self_eq_true, g1, g2, g3, g6, g7]
      exact ⟨trivial, trivial, trivial, trivial, trivial, trivial, hd2, by omega, by rw [take_snoc hk, List.map_append, List.map_append]; rfl⟩
end Go.Ab.T
end

section
namespace Go.Ab.T
set_option maxRecDepth 8000
set_option maxHeartbeats 4000000
/-- A slot as it must be, whatever its screen and team. -/
structure RS (s : Sl) : Prop where
  c0 : 0 ≤ s.crowd
  c1 : s.crowd ≤ 500
  b0 : 0 ≤ s.bg
  b1 : s.bg ≤ 2000
  r0 : 1 ≤ s.runs.lo
  r1 : s.runs.lo ≤ s.runs.hi
  r2 : s.runs.hi ≤ 400
theorem LV.rs {h : Hs} {l : List Sl} (hV : LV h l) : ∀ s ∈ l, RS s := fun s hs =>
  let hS := hV.S s hs
  ⟨hS.c0, hS.c1, hV.b0 s hs, hV.b1 s hs, hS.r0, hS.r1, hS.r2⟩
theorem RS.ib {h : Hs} (hH : HV h) {s : Sl} (hR : RS s) (hi : Bool) : IB (itOf h hi s) := by
  have h1 : 1 ≤ s.runs.of hi ∧ s.runs.of hi ≤ 400 := by
    have := hR.r0; have := hR.r1; have := hR.r2
    unfold Sp.of; cases hi <;> simp <;> omega
  have h2 := clean_b hH hi
  exact ⟨hR.c0, hR.c1, hR.b0, hR.b1, h1.1, h1.2, h2.1, h2.2⟩
theorem RunB_ok (h : Hs) (hH : HV h) (l : List Sl) (hi : Bool) (hl : l.length ≤ 40) (hR : ∀ s ∈ l, RS s) :
    RV ft 18 [encH h, encSs l, encX (l.map fun s => s.runs.of hi) (l.map fun _ => h.clean.of hi) (rateOf h hi)] (encEs (simH h hi l zeroI zeroI)) := by
  have hr := rate_b hH hi
  have := Run_ok h hH l (l.map fun s => s.runs.of hi) (l.map fun _ => h.clean.of hi) (rateOf h hi) hl (by simp) (by simp) hr.1 hr.2 (by
    rw [mkIts_of]; intro x hx
    obtain ⟨s, hs, rfl⟩ := List.mem_map.1 hx
    exact (hR s hs).ib hH hi)
  rw [mkIts_of] at this
  exact this
theorem ev_b2 {h : Hs} {s : Sl} {rd id : Int → Int} {c : Int} (hH : HV h) (hR : RS s) (h1 : Bd c rd) (h2 : Bd c id) (hc : 2000 ≤ c) (hi : Bool) :
    0 ≤ (evH h hi s rd id).enter ∧ (evH h hi s rd id).enter ≤ (evH h hi s rd id).seated ∧ (evH h hi s rd id).seated ≤ (evH h hi s rd id).start ∧ (evH h hi s rd id).start ≤ (evH h hi s rd id).empty ∧ (evH h hi s rd id).empty ≤ (evH h hi s rd id).ready ∧ (evH h hi s rd id).ready ≤ c + 1540 := by
  have hr := rate_b hH hi
  have g1 := pas_nn hR.c0 hr.1
  have g2 := pas_le hR.c0 hr.1
  have g3 := hR.c1
  have g4 : 1 ≤ s.runs.of hi ∧ s.runs.of hi ≤ 400 := by
    have := hR.r0; have := hR.r1; have := hR.r2
    unfold Sp.of; cases hi <;> simp <;> omega
  have g5 := clean_b hH hi
  have g6 := h1 s.screen
  have g7 := h2 s.team
  have g8 := hR.b0
  have g9 := hR.b1
  have g10 : 0 ≤ comeOf h.early s ∧ comeOf h.early s ≤ s.bg := by
    have := hH.e0; unfold comeOf; omega
  unfold evH evIt itOf evOf
  dsimp only
  omega
theorem simH_bd2 {h : Hs} (hH : HV h) (hi : Bool) : ∀ {l : List Sl} (_ : ∀ s ∈ l, RS s) {rd id : Int → Int} {c : Int} (_ : Bd c rd) (_ : Bd c id) (_ : 2000 ≤ c) (i : Nat) e, (simH h hi l rd id)[i]? = some e → 0 ≤ e.enter ∧ e.enter ≤ e.start ∧ e.start ≤ e.ready ∧ e.ready ≤ c + 1600 * (i + 1)
  | [], _, _, _, _, _, _, _, i, e, he => by simp [simH_nil] at he
  | s :: l, hl, rd, id, c, h1, h2, hc, i, e, he => by
    have hb := ev_b2 hH (hl s (by simp)) h1 h2 hc hi
    have := hH.w0
    have := hH.w1
    rw [simH_cons] at he
    cases i with
    | zero => simp at he; subst he; omega
    | succ i =>
      rw [List.getElem?_cons_succ] at he
      have := simH_bd2 hH hi (l := l) (fun s hs => hl s (List.mem_cons_of_mem _ hs)) (c := c + 1600) (h1.set (by omega) (by omega) (by omega)) (h2.set (by omega) (by omega) (by omega)) (by omega) i e he
      push_cast; omega
theorem lateR_ok (h : Hs) (hH : HV h) (l : List Sl) (hl : l.length ≤ 40) (hR : ∀ s ∈ l, RS s) : RV ft 59 [encH h, encSs l] (.tup [I64 (lateGo h l zeroI zeroI 0).1, I64 (lateGo h l zeroI zeroI 0).2]) := by
  refine RV_of ft59 rfl ?_
  simp only [c59, r59]
  obtain ⟨evs, hevs⟩ : ∃ evs, evs = simH h true l zeroI zeroI := ⟨_, rfl⟩
  have hRu := RunB_ok h hH l true hl hR
  rw [← hevs] at hRu
  have hbnd : ∀ (i : Nat) e, evs[i]? = some e → 0 ≤ e.start ∧ e.start ≤ 1000000 := fun i e he => by
    have hlt : i < l.length := by have := (List.getElem?_eq_some_iff.1 he).1; rw [hevs, simH_len] at this; exact this
    rw [hevs] at he
    have := simH_bd2 hH true hR (Bd_zero (c := 2000) (by omega)) (Bd_zero (by omega)) (by omega) i e he
    omega
  simp only [go_sem, Nat.reduceEqDiff, Nat.reduceAdd, Nat.reduceLT, Nat.reduceLeDiff, reduceIte, and_self, decide_true, decide_false, beq_self_eq_true, HCells, HEta, WB58, snH, hotH, snSs, hotSs, WVH_eq (bound_ok h l true hl), true_and, WB18, snX, hotX, WVH_eq hRu]
  refine WL_inv (α := Nat × List Sl × (Int → Int) × (Int → Int)) (fun q e mm => e 1 = encSs l ∧ e 6 = encEs evs ∧ e 7 = I64 q.1 ∧ l.drop q.1 = q.2.1 ∧ evs.drop q.1 = simH h true q.2.1 q.2.2.1 q.2.2.2 ∧ lateGo h q.2.1 q.2.2.1 q.2.2.2 q.1 = lateGo h l zeroI zeroI 0) (fun q => q.2.1.length) (0, l, zeroI, zeroI) ?_ ?_
  · simp only [go_sem, Nat.reduceEqDiff, Nat.reduceAdd, Nat.reduceLT, Nat.reduceLeDiff, reduceIte, and_self, decide_true, decide_false, beq_self_eq_true]
    exact ⟨trivial, trivial, rfl, trivial, hevs, rfl⟩
  rintro ⟨k, r, rd, id⟩ e mm ⟨g1, g6, g7, hd, hde, hq⟩
  dsimp only at g7 hd hde hq
  cases r with
  | nil =>
    have := drop_nil hd
    simp only [go_sem, Nat.reduceEqDiff, Nat.reduceAdd, Nat.reduceLT, Nat.reduceLeDiff, reduceIte, and_self, decide_true, decide_false, beq_self_eq_true, g1, g6, g7, Ss_len, dec_ge this]
    rw [← hq]; rfl
  | cons x r =>
    obtain ⟨hk, hd2, hlt⟩ := drop_cons hd
    rw [simH_cons] at hde
    obtain ⟨hke, hde2, _⟩ := drop_cons hde
    have hb := hbnd k _ hke
    have hRx := hR x (List.mem_of_getElem? hk)
    have x0 := hRx.b0
    have x1 := hRx.b1
    rw [lateGo] at hq
    generalize hev : evH h true x rd id = ev at *
    have w1 : IntKind.i64.wrap (ev.start - x.bg) = ev.start - x.bg := wrap_i64 _ (by omega) (by omega)
    cases hdl : decide (x.bg < ev.start)
    · rw [if_neg (of_decide_eq_false hdl)] at hq
      simp only [go_sem, Nat.reduceEqDiff, Nat.reduceAdd, Nat.reduceLT, Nat.reduceLeDiff, reduceIte, and_self, decide_true, decide_false, beq_self_eq_true, g1, g6, g7, Ss_len, dec_lt hlt, Ss_idx _ hk, Es_idx _ hke, ECells, SCells, Nat.zero_add, hdl, wrap_n1 k (by omega)]
      refine Nx_of (k + 1, r, setI rd x.screen ev.ready, setI id x.team (ev.ready + h.walk)) (by simp) ?_
      simp only [go_sem, Nat.reduceEqDiff, Nat.reduceAdd, Nat.reduceLT, Nat.reduceLeDiff, reduceIte, and_self, decide_true, decide_false, beq_self_eq_true, g1, g6]
      exact ⟨trivial, trivial, trivial, hd2, hde2, by rw [← hq]; push_cast; rfl⟩
    · rw [if_pos (of_decide_eq_true hdl)] at hq
      simp only [go_sem, Nat.reduceEqDiff, Nat.reduceAdd, Nat.reduceLT, Nat.reduceLeDiff, reduceIte, and_self, decide_true, decide_false, beq_self_eq_true, g1, g6, g7, Ss_len, dec_lt hlt, Ss_idx _ hk, Es_idx _ hke, ECells, SCells, Nat.zero_add, hdl, w1]
      rw [← hq]
theorem LateR_ok (h : Hs) (l : List Sl) : RV ft 33 [encH h, encSs l] (.tup [I64 (lateE h l).1, I64 (lateE h l).2, I64 (chk h l)]) := by
  refine RV_of ft33 rfl ?_
  simp only [c33, r33]
  unfold lateE
  by_cases hc : chk h l = 0
  case neg =>
    rw [if_neg hc]
    simp only [go_sem, Nat.reduceEqDiff, Nat.reduceAdd, Nat.reduceLT, Nat.reduceLeDiff, reduceIte, and_self, decide_true, decide_false, beq_self_eq_true, HCells, HEta, WB27, snH, hotH, snSs, hotSs, WVH_eq (CheckR_ok h l), chk_ne hc, true_and]
    rfl
  rw [if_pos hc]
  have hV := chk_0.1 hc
  have hl12 := hV.len
  simp only [go_sem, Nat.reduceEqDiff, Nat.reduceAdd, Nat.reduceLT, Nat.reduceLeDiff, reduceIte, and_self, decide_true, decide_false, beq_self_eq_true, HCells, HEta, WB27, snH, hotH, snSs, hotSs, WVH_eq (CheckR_ok h l), chk_eq hc, true_and, WB59, WVH_eq (lateR_ok h hV.H l (by omega) hV.rs), resOf_ttt, hc, show ((0 : Int) != 0) = false from rfl]
theorem TimesR_ok (h : Hs) (l : List Sl) : RV ft 32 [encH h, encSs l] (.tup [encMs (tE h l), I64 (chk h l)]) := by
  refine RV_of ft32 rfl ?_
  simp only [c32, r32]
  unfold tE
  by_cases hc : chk h l = 0
  case neg =>
    rw [if_neg hc]
    simp only [go_sem, Nat.reduceEqDiff, Nat.reduceAdd, Nat.reduceLT, Nat.reduceLeDiff, reduceIte, and_self, decide_true, decide_false, beq_self_eq_true, HCells, HEta, WB27, snH, hotH, snSs, hotSs, WVH_eq (CheckR_ok h l), chk_ne hc, true_and]
    rfl
  rw [if_pos hc]
  have hV := chk_0.1 hc
  have hl12 := hV.len
  have h1 := RunB_ok h hV.H l false (by omega) hV.rs
  have h2 := RunB_ok h hV.H l true (by omega) hV.rs
  simp only [go_sem, Nat.reduceEqDiff, Nat.reduceAdd, Nat.reduceLT, Nat.reduceLeDiff, reduceIte, and_self, decide_true, decide_false, beq_self_eq_true, HCells, HEta, WB27, snH, hotH, snSs, hotSs, WVH_eq (CheckR_ok h l), chk_eq hc, true_and, WB58, WVH_eq (bound_ok h l true (by omega)), WVH_eq (bound_ok h l false (by omega)), WB18, snX, hotX, WVH_eq h1, WVH_eq h2]
  refine WL_inv (α := Nat × List (Ev × Ev) × List (Ev × Ev)) (fun q e mm => e 1 = encSs l ∧ e 7 = encEs (simH h false l zeroI zeroI) ∧ e 8 = encEs (simH h true l zeroI zeroI) ∧ e 9 = acV (q.2.2.map encM) ∧ e 10 = I64 q.1 ∧ (tz h l).drop q.1 = q.2.1 ∧ q.2.2.length = q.1 ∧ q.2.2 ++ q.2.1 = tz h l ∧ ∃ bl, mm = ⟨bl, acT 45 (q.2.2.map encM)⟩) (fun q => q.2.1.length) (0, tz h l, []) ?_ ?_
  · simp only [go_sem, Nat.reduceEqDiff, Nat.reduceAdd, Nat.reduceLT, Nat.reduceLeDiff, reduceIte, and_self, decide_true, decide_false, beq_self_eq_true]
    exact ⟨trivial, trivial, trivial, rfl, rfl, trivial, trivial, trivial, _, rfl⟩
  rintro ⟨k, r, out⟩ e mm ⟨g1, g7, g8, g9, g10, hd, ho, hsum, bl, rfl⟩
  dsimp only at g9 g10 hd ho hsum
  cases r with
  | nil =>
    have := drop_nil hd
    rw [tz_len] at this
    rw [List.append_nil] at hsum
    simp only [go_sem, Nat.reduceEqDiff, Nat.reduceAdd, Nat.reduceLT, Nat.reduceLeDiff, reduceIte, and_self, decide_true, decide_false, beq_self_eq_true, g1, g7, g8, g9, g10, Ss_len, dec_ge this]
    rw [hsum, hc]
    exact congrArg (fun x => AV.tup [x, I64 0]) (snMst _ 5 _ _)
  | cons p r =>
    obtain ⟨hk, hd2, hlt⟩ := drop_cons hd
    rw [tz_len] at hlt
    obtain ⟨p1, p2⟩ := tz_get.1 hk
    have happ := fun bl => acM_app bl out p .tight (by omega)
    simp only [go_sem, Nat.reduceEqDiff, Nat.reduceAdd, Nat.reduceLT, Nat.reduceLeDiff, reduceIte, and_self, decide_true, decide_false, beq_self_eq_true, g1, g7, g8, g9, g10, Ss_len, dec_lt hlt, Es_idx _ p1, Es_idx _ p2, ECells, MEta, MCells, Nat.zero_add, happ, wrap_n1 k (by omega)]
    refine Nx_of (k + 1, r, out ++ [p]) (by simp) ?_
    simp only [go_sem, Nat.reduceEqDiff, Nat.reduceAdd, Nat.reduceLT, Nat.reduceLeDiff, reduceIte, and_self, decide_true, decide_false, beq_self_eq_true, g1, g7, g8]
    exact ⟨trivial, trivial, trivial, trivial, trivial, hd2, by simp [ho], by rw [← hsum]; simp, _, rfl⟩
end Go.Ab.T
end
