/-
  A part of the proofs over this seat.
  (The texts KzM5 KzK12, one behind the other.)
-/
import Derived.Test.YtedkegliicileaaP3
import Derived.Test.YtedkegliicileaaP4
set_option linter.unusedSimpArgs false
set_option linter.unusedVariables false
set_option linter.unusedSectionVars false
section
namespace Go.Ab.T
/-! ### Who waits, in a case -/
def wsum (early rate m : Int) : List It → List Ev → Int
  | x :: l, e :: es => wait1 x.s.crowd rate (comeOf early x.s) e.enter m + wsum early rate m l es
  | _, _ => 0
theorem waitS_eq (h : Hs) (hi : Bool) (m : Int) : ∀ (l : List Sl) (rd id : Int → Int), waitS h hi m l rd id = wsum h.early (rateOf h hi) m (l.map (itOf h hi)) (simH h hi l rd id)
  | [], _, _ => rfl
  | s :: l, rd, id => by
    rw [simH_cons, List.map_cons, wsum, waitS, waitS_eq h hi m l]; rfl
theorem wait1_mono {crowd rate rate' come enter enter' m : Int} (hr : 0 ≤ rate') (hrr : rate' ≤ rate) (he : enter ≤ enter') : wait1 crowd rate come enter m ≤ wait1 crowd rate' come enter' m := by
  unfold wait1
  split
  · have h1 : rate' * max 0 (m - enter' + 1) ≤ rate * max 0 (m - enter + 1) := Int.mul_le_mul hrr (by omega) (by omega) (by omega)
    omega
  · omega
theorem wsum_mono {early rate rate' m : Int} (hr : 0 ≤ rate') (hrr : rate' ≤ rate) : ∀ {l l' : List It} {es es' : List Ev}, l.length = l'.length → es.length = l.length → es'.length = l'.length → (∀ (i : Nat) x y, l[i]? = some x → l'[i]? = some y → x.le y) →
    (∀ (i : Nat) a b, es[i]? = some a → es'[i]? = some b → a.enter ≤ b.enter) → wsum early rate m l es ≤ wsum early rate' m l' es'
  | [], l', es, es', h1, h2, h3, _, _ => by
    have : l' = [] := List.eq_nil_of_length_eq_zero (by simpa using h1.symm)
    subst this; simp [wsum]
  | x :: l, [], _, _, h1, _, _, _, _ => by simp at h1
  | x :: l, y :: l', [], _, _, h2, _, _, _ => by simp at h2
  | x :: l, y :: l', a :: es, [], _, _, h3, _, _ => by simp at h3
  | x :: l, y :: l', a :: es, b :: es', h1, h2, h3, h4, h5 => by
    simp only [wsum]
    have hxy := h4 0 x y rfl rfl
    have hab := h5 0 a b rfl rfl
    have h6 := wsum_mono (early := early) (m := m) hr hrr (by simpa using h1) (by simpa using h2) (by simpa using h3) (fun i x y hx hy => h4 (i + 1) x y hx hy) (fun i a b ha hb => h5 (i + 1) a b ha hb)
    have h7 := wait1_mono (crowd := x.s.crowd) (come := comeOf early x.s) (m := m) hr hrr hab
    have : comeOf early y.s = comeOf early x.s := by unfold comeOf; rw [hxy.bg]
    rw [this, ← hxy.crowd]
    omega
theorem wait1_time {crowd rate come enter m m' : Int} (hr : 0 ≤ rate) (hm : m ≤ m') (hc : come ≤ m' → come ≤ m) (hc0 : 0 ≤ crowd) : wait1 crowd rate come enter m' ≤ wait1 crowd rate come enter m := by
  unfold wait1
  by_cases h : come ≤ m'
  · rw [if_pos h, if_pos (hc h)]
    have h1 : rate * max 0 (m - enter + 1) ≤ rate * max 0 (m' - enter + 1) := Int.mul_le_mul_of_nonneg_left (by omega) hr
    omega
  · rw [if_neg h, if_neg (by omega)]; exact Int.le_refl _
theorem wsum_time {early rate m m' : Int} (hr : 0 ≤ rate) (hm : m ≤ m') : ∀ {l : List It} {es : List Ev}, (∀ x ∈ l, 0 ≤ x.s.crowd ∧ (comeOf early x.s ≤ m' → comeOf early x.s ≤ m)) → wsum early rate m' l es ≤ wsum early rate m l es
  | [], _, _ => by simp [wsum]
  | x :: l, [], _ => by simp [wsum]
  | x :: l, e :: es, h => by
    simp only [wsum]
    have h1 := h x (by simp)
    have h2 := wait1_time (crowd := x.s.crowd) (enter := e.enter) hr hm h1.2 h1.1
    have h3 := wsum_time (early := early) hr hm (l := l) (es := es) fun y hy => h y (List.mem_cons_of_mem _ hy)
    omega
theorem wsum_nn {early rate m : Int} (hr : 0 ≤ rate) : ∀ {l : List It} {es : List Ev}, (∀ x ∈ l, x.s.crowd ≤ x.s.crowd) → 0 ≤ wsum early rate m l es
  | [], _, _ => by simp [wsum]
  | x :: l, [], _ => by simp [wsum]
  | x :: l, e :: es, h => by
    simp only [wsum]
    have h1 : 0 ≤ wait1 x.s.crowd rate (comeOf early x.s) e.enter m := by unfold wait1; split <;> omega
    have h3 := wsum_nn (early := early) (m := m) hr (l := l) (es := es) fun y hy => Int.le_refl _
    omega
theorem waitE_eq (h : Hs) (hi : Bool) (l : List Sl) (m : Int) : waitE h hi l m = wsum h.early (rateOf h hi) m (l.map (itOf h hi)) (simH h hi l zeroI zeroI) := waitS_eq h hi m l zeroI zeroI
theorem rate_pos {h : Hs} (hH : HV h) (hi : Bool) : 1 ≤ rateOf h hi := by
  have := hH.d0; have := hH.d1
  unfold rateOf; cases hi <;> simp <;> omega
theorem case_waits {h : Hs} {l : List Sl} {rs cs : List Int} {rate : Int} (hV : LV h l) (hC : CV h l rs cs rate) (m : Int) :
    waitE h false l m ≤ wsum h.early rate m (mkIts l rs cs) (sim h.early rate h.walk (mkIts l rs cs) zeroI zeroI) ∧ wsum h.early rate m (mkIts l rs cs) (sim h.early rate h.walk (mkIts l rs cs) zeroI zeroI) ≤ waitE h true l m := by
  have hlen := mkIts_len l rs cs hC.l1 hC.l2
  have hd0 := hV.H.d0
  have h1 := hC.r0
  have h2 := hC.r1
  have hget : ∀ (j : Nat) x, (mkIts l rs cs)[j]? = some x → ∃ s, l[j]? = some s ∧ x.s = s ∧ s.runs.lo ≤ x.run ∧ x.run ≤ s.runs.hi ∧ h.clean.lo ≤ x.clean ∧ x.clean ≤ h.clean.hi ∧ 0 ≤ s.crowd := by
    intro j x hx
    have hlt : j < l.length := by have := (List.getElem?_eq_some_iff.1 hx).1; omega
    obtain ⟨s, hs⟩ : ∃ s, l[j]? = some s := ⟨_, List.getElem?_eq_getElem hlt⟩
    obtain ⟨r, hr⟩ : ∃ r, rs[j]? = some r := ⟨_, List.getElem?_eq_getElem (by rw [hC.l1]; exact hlt)⟩
    obtain ⟨c, hc⟩ : ∃ c, cs[j]? = some c := ⟨_, List.getElem?_eq_getElem (by rw [hC.l2]; exact hlt)⟩
    rw [mkIts_get l rs cs j s r c hs hr hc] at hx
    cases hx
    exact ⟨s, hs, rfl, (hC.rs j s r hs hr).1, (hC.rs j s r hs hr).2, (hC.cs j c hc).1, (hC.cs j c hc).2, (hV.S s (List.mem_of_getElem? hs)).c0⟩
  have hexi : ∀ (i : Nat) (hi : i < l.length), ∃ e, (sim h.early rate h.walk (mkIts l rs cs) zeroI zeroI)[i]? = some e := fun i hi => ⟨_, List.getElem?_eq_getElem (by rw [sim_len, hlen]; exact hi)⟩
  rw [waitE_eq, waitE_eq]
  constructor
  · refine wsum_mono (by omega) h2 (by rw [hlen]; simp) (by rw [simH_len]; simp) (by rw [sim_len]) (fun j x y hx hy => ?_) (fun i a b ha hb => ?_)
    · obtain ⟨s, hs, g1, g2, g3, g4, g5, g6⟩ := hget j y hy
      rw [List.getElem?_map, hs] at hx; cases hx
      exact ⟨by rw [g1]; rfl, by rw [g1]; rfl, by rw [g1]; rfl, by rw [g1]; rfl, g2, g4, g6⟩
    · obtain ⟨c, hc⟩ := simH_get (h := h) (hi := true) (l := l) (rd := zeroI) (id := zeroI) (i := i) (by have := (List.getElem?_eq_some_iff.1 ha).1; rw [simH_len] at this; exact this)
      exact (case_mid hV hC ha hb hc).1.1
  · refine wsum_mono (by have := rate_pos hV.H true; omega) h1 (by rw [hlen]; simp) (by rw [sim_len]) (by rw [simH_len]; simp) (fun j x y hx hy => ?_) (fun i a b ha hb => ?_)
    · obtain ⟨s, hs, g1, g2, g3, g4, g5, g6⟩ := hget j x hx
      rw [List.getElem?_map, hs] at hy; cases hy
      exact ⟨by rw [g1]; rfl, by rw [g1]; rfl, by rw [g1]; rfl, by rw [g1]; rfl, g3, g5, by rw [g1]; exact g6⟩
    · obtain ⟨c, hc⟩ := simH_get (h := h) (hi := false) (l := l) (rd := zeroI) (id := zeroI) (i := i) (by have := (List.getElem?_eq_some_iff.1 hb).1; rw [simH_len] at this; exact this)
      exact (case_mid hV hC hc ha hb).2.1
/-- When nobody comes between two minutes, fewer wait at the later one. -/
theorem waitE_time {h : Hs} {l : List Sl} (hV : LV h l) (hi : Bool) {m m' : Int} (hm : m ≤ m') (hc : ∀ s ∈ l, comeOf h.early s ≤ m' → comeOf h.early s ≤ m) : waitE h hi l m' ≤ waitE h hi l m := by
  rw [waitE_eq, waitE_eq]
  refine wsum_time (by have := rate_pos hV.H hi; omega) hm fun x hx => ?_
  obtain ⟨s, hs, rfl⟩ := List.mem_map.1 hx
  exact ⟨(hV.S s hs).c0, hc s hs⟩
theorem come_le {h : Hs} {l : List Sl} (hV : LV h l) {s : Sl} (hs : s ∈ l) : 0 ≤ comeOf h.early s ∧ comeOf h.early s ≤ 2000 := by
  have := hV.b0 s hs; have := hV.b1 s hs; have := hV.H.e0
  unfold comeOf; omega
/-- What Crowded tells. -/
theorem crowd_spec {h : Hs} {l : List Sl} (hV : LV h l) : (crowdE h l = -1 ∧ ∀ m, 0 ≤ m → waitE h true l m ≤ h.foyer) ∨ (0 ≤ crowdE h l ∧ crowdE h l ≤ 2000 ∧ h.foyer < waitE h true l (crowdE h l) ∧ ∀ m, 0 ≤ m → m < crowdE h l → waitE h true l m ≤ h.foyer) := by
  rcases crowdGo_spec h l 2001 0 with ⟨h1, h2⟩ | ⟨h1, h2, h3, h4⟩
  · refine .inl ⟨h1, fun m hm => ?_⟩
    by_cases hm2 : m ≤ 2000
    · exact h2 m hm (by omega)
    · have := h2 2000 (by omega) (by omega)
      have := waitE_time hV true (m := 2000) (m' := m) (by omega) fun s hs _ => (come_le hV hs).2
      omega
  · have h1' : 0 ≤ crowdE h l := h1
    have h2' : crowdE h l < 0 + ((2001 : Nat) : Int) := h2
    exact .inr ⟨h1', by omega, h3, h4⟩
end Go.Ab.T
end

section
namespace Go.Ab.T
set_option maxRecDepth 8000
set_option maxHeartbeats 4000000
theorem wsum_cons (early rate m : Int) (x : It) (l : List It) (e : Ev) (es : List Ev) : wsum early rate m (x :: l) (e :: es) = wait1 x.s.crowd rate (comeOf early x.s) e.enter m + wsum early rate m l es := rfl
theorem mkIts_drop : ∀ (l : List Sl) (rs cs : List Int) (k : Nat), (mkIts l rs cs).drop k = mkIts (l.drop k) (rs.drop k) (cs.drop k)
  | [], _, _, k => by simp [mkIts]
  | s :: l, [], _, k => by
    cases k with
    | zero => rfl
    | succ k => simp only [mkIts, List.drop_nil, List.drop_succ_cons]; cases (l.drop k) <;> rfl
  | s :: l, r :: rs, [], k => by
    cases k with
    | zero => rfl
    | succ k =>
      simp only [mkIts, List.drop_nil, List.drop_succ_cons]
      cases (l.drop k) with
      | nil => rfl
      | cons _ _ => cases (rs.drop k) <;> rfl
  | s :: l, r :: rs, c :: cs, k => by
    cases k with
    | zero => rfl
    | succ k => simp only [mkIts, List.drop_succ_cons]; exact mkIts_drop l rs cs k
theorem Waits_ok (h : Hs) (hH : HV h) (l : List Sl) (rs cs : List Int) (rate m : Int) (hl : l.length ≤ 40) (l1 : rs.length = l.length) (l2 : cs.length = l.length) (hr0 : 1 ≤ rate) (hr1 : rate ≤ 100) (hI : ∀ x ∈ mkIts l rs cs, IB x) (m0 : 0 ≤ m) (m1 : m ≤ 9999)
    (hb : ∀ e ∈ sim h.early rate h.walk (mkIts l rs cs) zeroI zeroI, 0 ≤ e.enter ∧ e.enter ≤ 1000000) :
    RV ft 23 [encH h, encSs l, encX rs cs rate, I64 m] (I64 (wsum h.early rate m (mkIts l rs cs) (sim h.early rate h.walk (mkIts l rs cs) zeroI zeroI))) := by
  refine RV_of ft23 rfl ?_
  simp only [c23, r23]
  have hR := Run_ok h hH l rs cs rate hl l1 l2 hr0 hr1 hI
  obtain ⟨its, hits⟩ : ∃ its, its = mkIts l rs cs := ⟨_, rfl⟩
  have hlen := mkIts_len l rs cs l1 l2
  rw [← hits] at hI hR hb hlen ⊢
  obtain ⟨evs, hevs⟩ : ∃ evs, evs = sim h.early rate h.walk its zeroI zeroI := ⟨_, rfl⟩
  have hevl : evs.length = its.length := by rw [hevs, sim_len]
  rw [← hevs] at hR hb ⊢
  have e0 := hH.e0
  have e1 := hH.e1
  simp only [go_sem, Nat.reduceEqDiff, Nat.reduceAdd, Nat.reduceLT, Nat.reduceLeDiff, reduceIte, and_self, decide_true, decide_false, beq_self_eq_true, HCells, HEta, XCells, XEta, solidI, cellsI, WB18, snH, hotH, snSs, hotSs, snX, hotX, WVH_eq hR, true_and]
  refine WL_inv (α := Nat × List It × List Ev × Int) (fun q e mm => e 1 = encSs l ∧ e 3 = I64 m ∧ e 4 = .ptr 0 0 0 ∧ e 6 = .ptr 1 0 0 ∧ e 9 = encEs evs ∧ e 10 = I64 q.2.2.2 ∧ e 11 = I64 q.1 ∧ its.drop q.1 = q.2.1 ∧ evs.drop q.1 = q.2.2.1 ∧
      q.2.2.2 + wsum h.early rate m q.2.1 q.2.2.1 = wsum h.early rate m its evs ∧ 0 ≤ q.2.2.2 ∧ q.2.2.2 ≤ 500 * q.1 ∧ mm = ⟨[.live [encH h] 8, .live [encX rs cs rate] 3], []⟩) (fun q => q.2.1.length) (0, its, evs, 0) ?_ ?_
  · simp only [go_sem, Nat.reduceEqDiff, Nat.reduceAdd, Nat.reduceLT, Nat.reduceLeDiff, reduceIte, and_self, decide_true, decide_false, beq_self_eq_true]
    exact ⟨trivial, trivial, trivial, trivial, trivial, trivial, rfl, trivial, trivial, by omega, by omega, by omega, trivial⟩
  rintro ⟨k, xs, es, n⟩ e mm ⟨g1, g3, g4, g6, g9, g10, g11, hd, hde, hsum, n0, n1, rfl⟩
  dsimp only at g10 g11 hd hde hsum n0 n1
  cases xs with
  | nil =>
    have := drop_nil hd
    simp only [go_sem, Nat.reduceEqDiff, Nat.reduceAdd, Nat.reduceLT, Nat.reduceLeDiff, reduceIte, and_self, decide_true, decide_false, beq_self_eq_true, g1, g3, g4, g6, g9, g10, g11, Ss_len, dec_ge (show l.length ≤ k by omega)]
    rw [← hsum]; simp only [wsum, Int.add_zero]
  | cons x xs =>
    obtain ⟨hk, hd2, hlt⟩ := drop_cons hd
    cases es with
    | nil => have := drop_nil hde; omega
    | cons ev es =>
      obtain ⟨hke, hde2, _⟩ := drop_cons hde
      rw [hlen] at hlt
      obtain ⟨s, hs⟩ : ∃ s, l[k]? = some s := ⟨_, List.getElem?_eq_getElem hlt⟩
      obtain ⟨r, hr⟩ : ∃ r, rs[k]? = some r := ⟨_, List.getElem?_eq_getElem (by omega)⟩
      obtain ⟨c, hc⟩ : ∃ c, cs[k]? = some c := ⟨_, List.getElem?_eq_getElem (by omega)⟩
      have hx : x = ⟨s, r, c⟩ := by
        have := mkIts_get l rs cs k s r c hs hr hc
        rw [← hits, hk] at this
        cases this; rfl
      have hx' := hI x (List.mem_of_getElem? hk)
      subst hx
      obtain ⟨i1, i2, i3, i4, i5, i6, i7, i8⟩ := hx'
      dsimp only at i1 i2 i3 i4 i5 i6 i7 i8
      have hevb := hb ev (List.mem_of_getElem? hke)
      rw [wsum_cons] at hsum
      dsimp only at hsum
      have w1 : IntKind.i64.wrap (s.bg - h.early) = s.bg - h.early := wrap_i64 _ (by omega) (by omega)
      have hco : max 0 (s.bg - h.early) = comeOf h.early s := rfl
      cases hdl : decide (m < comeOf h.early s)
      case true =>
        have hw : wait1 s.crowd rate (comeOf h.early s) ev.enter m = 0 := if_neg (by have := of_decide_eq_true hdl; omega)
        rw [hw] at hsum
        simp only [go_sem, Nat.reduceEqDiff, Nat.reduceAdd, Nat.reduceLT, Nat.reduceLeDiff, reduceIte, and_self, decide_true, decide_false, beq_self_eq_true, g1, g3, g4, g6, g9, g10, g11, Ss_len, dec_lt hlt, Ss_idx _ hs, SCells, HCells, Nat.zero_add, w1, hco, hdl, wrap_n1 k (by omega)]
        refine Nx_of (k + 1, xs, es, n) (by simp) ?_
        simp only [go_sem, Nat.reduceEqDiff, Nat.reduceAdd, Nat.reduceLT, Nat.reduceLeDiff, reduceIte, and_self, decide_true, decide_false, beq_self_eq_true, g1, g3, g4, g6, g9, g10]
        exact ⟨trivial, trivial, trivial, trivial, trivial, trivial, trivial, hd2, hde2, by rw [← hsum]; omega, n0, by push_cast; omega, trivial⟩
      case false =>
        have hw : wait1 s.crowd rate (comeOf h.early s) ev.enter m = max 0 (s.crowd - rate * max 0 (m - ev.enter + 1)) := if_pos (by have := of_decide_eq_false hdl; omega)
        rw [hw] at hsum
        have w2 : IntKind.i64.wrap (m - ev.enter) = m - ev.enter := wrap_i64 _ (by omega) (by omega)
        have w3 : IntKind.i64.wrap (m - ev.enter + 1) = m - ev.enter + 1 := wrap_i64 _ (by omega) (by omega)
        have hm0 : 0 ≤ rate * max 0 (m - ev.enter + 1) := Int.mul_nonneg (by omega) (by omega)
        have hm1 : rate * max 0 (m - ev.enter + 1) ≤ 100 * 10000 := Int.mul_le_mul hr1 (by omega) (by omega) (by omega)
        generalize hmul : rate * max 0 (m - ev.enter + 1) = mu at *
        have w4 : IntKind.i64.wrap mu = mu := wrap_i64 _ (by omega) (by omega)
        have w5 : IntKind.i64.wrap (s.crowd - min s.crowd mu) = s.crowd - min s.crowd mu := wrap_i64 _ (by omega) (by omega)
        have w6 : IntKind.i64.wrap (n + (s.crowd - min s.crowd mu)) = n + (s.crowd - min s.crowd mu) := wrap_i64 _ (by omega) (by omega)
        simp only [go_sem, Nat.reduceEqDiff, Nat.reduceAdd, Nat.reduceLT, Nat.reduceLeDiff, reduceIte, and_self, decide_true, decide_false, beq_self_eq_true, g1, g3, g4, g6, g9, g10, g11, Ss_len, dec_lt hlt, Ss_idx _ hs, SCells, HCells, XCells, Nat.zero_add, w1, hco, hdl, Es_idx _ hke, ECells, w2, w3, hmul, w4, w5, w6, wrap_n1 k (by omega)]
        refine Nx_of (k + 1, xs, es, n + (s.crowd - min s.crowd mu)) (by simp) ?_
        simp only [go_sem, Nat.reduceEqDiff, Nat.reduceAdd, Nat.reduceLT, Nat.reduceLeDiff, reduceIte, and_self, decide_true, decide_false, beq_self_eq_true, g1, g3, g4, g6, g9]
        exact ⟨trivial, trivial, trivial, trivial, trivial, trivial, trivial, hd2, hde2, by rw [← hsum]; omega, by omega, by push_cast; omega, trivial⟩
theorem WaitingV_ok {h : Hs} {l : List Sl} (hV : LV h l) {m : Int} (m0 : 0 ≤ m) (m1 : m ≤ 9999) : RV ft 21 [encH h, encSs l, I64 m] (.tup [.agg [I64 (waitE h false l m), I64 (waitE h true l m)], I64 0]) := by
  have := Waiting_ok h l m
  unfold waitQ at this
  rw [if_pos (chk_0.2 hV), if_pos (inR_iff.2 ⟨m0, m1⟩)] at this
  exact this
theorem CrowdedV_ok {h : Hs} {l : List Sl} (hV : LV h l) : RV ft 22 [encH h, encSs l] (.tup [I64 (crowdE h l), I64 0]) := by
  have := Crowded_ok h l
  unfold crowdQ at this
  rw [if_pos (chk_0.2 hV)] at this
  exact this
theorem TurnFoyer_run (h : Hs) (l : List Sl) (rs cs : List Int) (rate m : Int) : RV ft 6 [encH h, encSs l, encXM rs cs rate m] (.bool true) := by
  refine RV_of ft6 rfl ?_
  simp only [c6, r6]
  cases hv : validL h l
  case false => simp only [go_sem, Nat.reduceEqDiff, Nat.reduceAdd, Nat.reduceLT, Nat.reduceLeDiff, reduceIte, and_self, decide_true, decide_false, beq_self_eq_true, HCells, HEta, XMCells, solidI, cellsI, WB13, snH, hotH, snSs, hotSs, WVH_eq (valid_ok h l), hv, true_and, WB15, WVH_eq works_ok]
  have hV := validL_iff.1 hv
  have hl12 := hV.len
  have hIC := IsCase_ok h l rs cs rate (by omega)
  cases hic : isC h l rs cs rate
  case false => simp only [go_sem, Nat.reduceEqDiff, Nat.reduceAdd, Nat.reduceLT, Nat.reduceLeDiff, reduceIte, and_self, decide_true, decide_false, beq_self_eq_true, HCells, HEta, XMCells, XEta, solidI, cellsI, WB13, snH, hotH, snSs, hotSs, WVH_eq (valid_ok h l), hv, true_and, WB14, snX, hotX, WVH_eq hIC, hic, WB15, WVH_eq works_ok]
  cases hm0 : decide (m < 0)
  case true => simp only [go_sem, Nat.reduceEqDiff, Nat.reduceAdd, Nat.reduceLT, Nat.reduceLeDiff, reduceIte, and_self, decide_true, decide_false, beq_self_eq_true, HCells, HEta, XMCells, XEta, solidI, cellsI, WB13, snH, hotH, snSs, hotSs, WVH_eq (valid_ok h l), hv, true_and, WB14, snX, hotX, WVH_eq hIC, hic, hm0, Nat.zero_add, WB15, WVH_eq works_ok]
  cases hm1 : decide (9999 < m)
  case true => simp only [go_sem, Nat.reduceEqDiff, Nat.reduceAdd, Nat.reduceLT, Nat.reduceLeDiff, reduceIte, and_self, decide_true, decide_false, beq_self_eq_true, HCells, HEta, XMCells, XEta, solidI, cellsI, WB13, snH, hotH, snSs, hotSs, WVH_eq (valid_ok h l), hv, true_and, WB14, snX, hotX, WVH_eq hIC, hic, hm0, hm1, Nat.zero_add, WB15, WVH_eq works_ok]
  have m0 := of_decide_eq_false hm0
  have m1 := of_decide_eq_false hm1
  have hC := isC_CV hic
  have hW := WaitingV_ok hV (m := m) (by omega) (by omega)
  have hK := CrowdedV_ok hV
  have hd0 := hV.H.d0
  have hd2 := hV.H.d2
  have hcr0 := hC.r0
  have hcr1 := hC.r1
  have hlenI := mkIts_len l rs cs hC.l1 hC.l2
  have hWs := Waits_ok h hV.H l rs cs rate m (by omega) hC.l1 hC.l2 (by omega) (by omega) (case_IB hV hC) (by omega) (by omega) (fun e he => by
    rw [List.mem_iff_getElem?] at he
    obtain ⟨i, hi⟩ := he
    have hlt : i < l.length := by have := (List.getElem?_eq_some_iff.1 hi).1; rw [sim_len, hlenI] at this; exact this
    obtain ⟨a, ha⟩ := simH_get (h := h) (hi := false) (l := l) (rd := zeroI) (id := zeroI) hlt
    obtain ⟨b, hb⟩ := simH_get (h := h) (hi := true) (l := l) (rd := zeroI) (id := zeroI) hlt
    obtain ⟨x1, x2⟩ := case_mid hV hC ha hi hb
    have b1 := simH_b hV false ha
    have b2 := simH_b hV true hb
    obtain ⟨s, hs⟩ : ∃ s, l[i]? = some s := ⟨_, List.getElem?_eq_getElem hlt⟩
    have u2 := simH_up hV true hs hb
    have hS := hV.S s (List.mem_of_getElem? hs)
    have r0 := hS.r0
    have r1 := hS.r1
    have k0 := hV.H.c0
    have k1 := hV.H.c1
    simp only [Sp.of, if_true] at u2
    have := x1.1
    have := x2.1
    omega)
  obtain ⟨c1, c2⟩ := case_waits hV hC m
  obtain ⟨real, hreal⟩ : ∃ real, real = wsum h.early rate m (mkIts l rs cs) (sim h.early rate h.walk (mkIts l rs cs) zeroI zeroI) := ⟨_, rfl⟩
  rw [← hreal] at hWs c1 c2
  have hin := in2_ok _ _ real c1 c2
  have h00 : ((0 : Int) != 0) = false := rfl
  have h00e : ((0 : Int) == 0) = true := rfl
  rcases crowd_spec hV with ⟨h1, h2⟩ | ⟨h1, h2, h3, h4⟩
  · rw [h1] at hK
    have hf : decide (h.foyer < real) = false := decide_eq_false (by have := h2 m (by omega); omega)
    have q1 : decide ((-1 : Int) < -1) = false := rfl
    have q2 : decide ((9999 : Int) < -1) = false := rfl
    have q3 : ((-1 : Int) == -1) = true := rfl
    have q4 : decide ((0 : Int) ≤ -1) = false := rfl
    simp only [go_sem, Nat.reduceEqDiff, Nat.reduceAdd, Nat.reduceLT, Nat.reduceLeDiff, reduceIte, and_self, decide_true, decide_false, beq_self_eq_true, HCells, HEta, XMCells, XEta, solidI, cellsI, WB13, snH, hotH, snSs, hotSs, WVH_eq (valid_ok h l), hv, true_and, WB14, snX, hotX, WVH_eq hIC, hic, hm0, hm1, Nat.zero_add, WB21, WVH_eq hW, WB22, WVH_eq hK, h00, q1, q2, q3, q4, WB23, WVH_eq hWs, WB19, snA2, hot_agg, WVH_eq hin, hf, WB15, WVH_eq works_ok]
  · obtain ⟨n, hn⟩ : ∃ n, n = crowdE h l := ⟨_, rfl⟩
    rw [← hn] at hK h1 h2 h3 h4
    have q1 : decide (n < -1) = false := decide_eq_false (by omega)
    have q2 : decide (9999 < n) = false := decide_eq_false (by omega)
    have q3 : (n == -1) = false := by rw [beq_eq_false_iff_ne]; omega
    have q4 : decide (0 ≤ n) = true := decide_eq_true h1
    have q5 : decide (h.foyer < waitE h true l n) = true := decide_eq_true h3
    have hW2 := WaitingV_ok hV (m := n) (by omega) (by omega)
    cases hmn : decide (m < n)
    case' true => have hf : decide (h.foyer < real) = false := decide_eq_false (by have := h4 m (by omega) (of_decide_eq_true hmn); omega)
    case' false => have hf : True := trivial
    all_goals simp only [go_sem, Nat.reduceEqDiff, Nat.reduceAdd, Nat.reduceLT, Nat.reduceLeDiff, reduceIte, and_self, decide_true, decide_false, beq_self_eq_true, HCells, HEta, XMCells, XEta, solidI, cellsI, WB13, snH, hotH, snSs, hotSs, WVH_eq (valid_ok h l), hv, true_and, WB14, snX, hotX, WVH_eq hIC, hic, hm0, hm1, Nat.zero_add, WB21, WVH_eq hW, WB22, WVH_eq hK, h00, q1, q2, q3, q4, WB23, WVH_eq hWs, WB19, snA2, hot_agg, WVH_eq hin, hmn, hf, WVH_eq hW2, h00e, q5, WB15, WVH_eq works_ok]
end Go.Ab.T
end
