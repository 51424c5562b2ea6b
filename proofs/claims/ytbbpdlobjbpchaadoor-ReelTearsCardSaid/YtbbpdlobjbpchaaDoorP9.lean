/-
  A part of the proofs over this seat.
  (The texts AxR32 AxR33 AxR34, one behind the other.)
-/
import Derived.Test.YtbbpdlobjbpchaaDoorP8
set_option linter.unusedSimpArgs false
set_option linter.unusedVariables false
set_option linter.unusedSectionVars false
section
namespace Go.Ab.T
set_option maxRecDepth 8000
set_option linter.unusedSimpArgs false
set_option linter.unusedVariables false
set_option maxHeartbeats 4000000
theorem all_tears {r : Rl} (h : (tearsL r).length = r.marks.length) : tearsL r = r.marks ∧ claimsL r = [] := by
  have h1 := marks_len r
  have h2 : claimsL r = [] := List.length_eq_zero_iff.1 (by omega)
  refine ⟨?_, h2⟩
  unfold tearsL
  rw [List.filter_eq_self]
  exact List.length_filter_eq_length_iff.1 h
theorem only_tears {r : Rl} {L : Nat} (h : Ok r L) (hc : claimsL r = []) (t : Nat) : t ∈ truthsL r L ↔ ∃ g, Choice (tearsL r) 0 g ∧ t = andn (allN L) g := by
  rw [truths_mem h]
  unfold IsT
  rw [hc]
  exact ⟨fun h => h.1, fun h => ⟨h, fun m hm => by cases hm⟩⟩
theorem tear_sub {r : Rl} {m : Mk} {L : Nat} (h : Ok r L) (ho : Ok (addR r m) L) (hc : claimsL r = []) (hm : isTear m = true) : ∀ t' ∈ truthsL (addR r m) L, ∃ t ∈ truthsL r L, ∃ b, isB m b ∧ t' = andn t b := by
  intro t' ht'
  obtain ⟨e1, e2⟩ := add_tear1 (r := r) hm
  have h9 := h.nine
  rw [only_tears ho (e2.trans hc), e1] at ht'
  obtain ⟨g, h1, rfl⟩ := ht'
  rcases (choice_snoc m _ 0 g).1 h1 with ⟨b, u, h2, h3, rfl⟩ | ⟨d', h0, _⟩
  · exact ⟨_, (only_tears h hc _).2 ⟨u, h3, rfl⟩, b, h2, (andn_or L u b (by omega)).symm⟩
  · omega
theorem tear_counts {m : Mk} {t b : Nat} (ht : t < 65536) (h : isB m b) : popc 16 (andn t b) ≤ popc 16 t ∧ splicesL (andn t b) ≤ splicesL t + 1 ∧ longestL (andn t b) ≤ longestL t := by
  have hl := andn_lt t b ht
  refine ⟨popc_mono fun i hi => andn_sub hi, ?_, longest_mono ht hl fun i hi => andn_sub hi⟩
  rcases h with ⟨_, rfl⟩ | ⟨a, d, _, _, _, _, _, rfl⟩
  · rw [andn_zero _ ht]; omega
  · rw [splices_rc _ ht, splices_rc _ hl]
    have := rc_block t a d
    omega
theorem tear_high {r : Rl} {m : Mk} (h0 : checkR r = 0) (h1 : checkR (addR r m) = 0) (h : Ok r r.feet.toNat) (ho : Ok (addR r m) r.feet.toNat) (hc : claimsL r = []) (hm : isTear m = true) (hr : TL r ≠ []) (hne : TL (addR r m) ≠ []) :
    highT (addR r m) (popc 16) ≤ highT r (popc 16) ∧ highT (addR r m) splicesL ≤ highT r splicesL + 1 ∧ highT (addR r m) longestL ≤ highT r longestL := by
  have key : ∀ (c : Nat → Nat) (k : Nat), (∀ t b, t < 65536 → isB m b → c (andn t b) ≤ c t + k) → highT (addR r m) c ≤ highT r c + k := by
    intro c k hck
    obtain ⟨b1, t2, b2, b3⟩ := high_spec h1 hne c
    obtain ⟨a1, _⟩ := high_spec h0 hr c
    obtain ⟨t, h2, b, h3, h4⟩ := tear_sub h ho hc hm t2 b2
    have h5 := a1 t h2
    have h6 := hck t b (Nat.lt_of_lt_of_le (truths_lt h h2) (two_pow_le (b := 16) (by have := h.nine; omega))) h3
    rw [b3, h4]; omega
  exact ⟨key _ 0 fun t b ht hb => (tear_counts ht hb).1, key _ 1 fun t b ht hb => (tear_counts ht hb).2.1, key _ 0 fun t b ht hb => (tear_counts ht hb).2.2⟩
theorem tears_ex {r : Rl} {L : Nat} (h : Ok r L) (hc : claimsL r = []) : truthsL r L ≠ [] ↔ ∀ m ∈ tearsL r, m.lo ≤ m.to - m.fr + 1 := by
  have hex : ∀ m ∈ tearsL r, (∃ b, isB m b) ↔ m.lo ≤ m.to - m.fr + 1 := fun m hm => by
    obtain ⟨t1, t2, t3, t4, t5, t6, t7⟩ := h.tearN m hm
    exact isB_ex t3 (by omega) t5 t6
  constructor
  · intro hne m hm
    obtain ⟨t, ht⟩ := List.exists_mem_of_ne_nil _ hne
    obtain ⟨g, hg, _⟩ := (only_tears h hc t).1 ht
    exact (hex m hm).1 (choice_has _ g hg m hm)
  · intro hall he
    obtain ⟨u, hu⟩ := choice_ex (tearsL r) fun m hm => (hex m hm).2 (hall m hm)
    have := (only_tears h hc _).2 ⟨u, hu, rfl⟩
    rw [he] at this; cases this
theorem ReelTears_run (r : Rl) (m : Mk) : RV ft 11 [encR r, encM m] (.bool true) := by
  refine RV_of ft11 rfl ?_
  simp only [c11, r11]
  cases hr : readyR r
  case false => simp only [go_sem, Nat.reduceEqDiff, Nat.reduceAdd, Nat.reduceLT, Nat.reduceLeDiff, reduceIte, and_self, decide_true, decide_false, beq_self_eq_true, sn_ms, hot_ms, WB40, WVH_eq (ready_ok r), true_and, hr, WB15, WVH_eq works_ok]
  cases c1 : decide ((10 : Int) ≤ (r.marks.length : Int))
  case true => simp only [go_sem, Nat.reduceEqDiff, Nat.reduceAdd, Nat.reduceLT, Nat.reduceLeDiff, reduceIte, and_self, decide_true, decide_false, beq_self_eq_true, sn_ms, hot_ms, WB40, WVH_eq (ready_ok r), true_and, hr, List.length_map, c1, WB15, WVH_eq works_ok]
  obtain ⟨hn, h0, hok⟩ := ready_spec hr
  have h10 := hok.ten
  simp only [go_sem, Nat.reduceEqDiff, Nat.reduceAdd, Nat.reduceLT, Nat.reduceLeDiff, reduceIte, and_self, decide_true, decide_false, beq_self_eq_true, sn_ms, hot_ms, WB40, WVH_eq (ready_ok r), true_and, hr, List.length_map, c1]
  refine WL_inv (α := Nat × List Mk) (fun a e mm => e 2 = .ptr 0 0 0 ∧ e 3 = .ptr 1 0 0 ∧ e 5 = I64 ((r.marks.take a.1).filter isTear).length ∧ e 6 = I64 a.1 ∧ r.marks.drop a.1 = a.2 ∧ a.1 ≤ r.marks.length ∧ mm = ⟨[.live [encR r] 2, .live [encM m] 5], []⟩) (fun a => r.marks.length - a.1) (0, r.marks) ?_ ?_
  · simp only [go_sem, Nat.reduceEqDiff, Nat.reduceAdd, Nat.reduceLT, Nat.reduceLeDiff, reduceIte, and_self, decide_true, decide_false, beq_self_eq_true]
    exact ⟨trivial, trivial, rfl, rfl, trivial, Nat.zero_le _, trivial⟩
  rintro ⟨k, ms⟩ e mm ⟨g2, g3, g5, g6, hd, hk, rfl⟩
  dsimp only at g5 g6 hd hk
  rcases ms with _ | ⟨x, ms⟩
  case cons =>
    obtain ⟨hg, hd', hlt⟩ := drop_cons hd
    have hw : IntKind.i64.wrap ((k : Int) + 1) = ((k + 1 : Nat) : Int) := by rw [wrap_i64 _ (by omega) (by omega)]; rfl
    have htk : r.marks.take (k + 1) = r.marks.take k ++ [x] := by rw [List.take_add_one, hg]; rfl
    have hle : ((r.marks.take k).filter isTear).length ≤ k := Nat.le_trans (List.length_filter_le _ _) (by rw [List.length_take]; omega)
    have hw2 : IntKind.i64.wrap ((((r.marks.take k).filter isTear).length : Int) + 1) = ((((r.marks.take k).filter isTear).length + 1 : Nat) : Int) := by rw [wrap_i64 _ (by omega) (by omega)]; rfl
    simp only [go_sem, Nat.reduceEqDiff, Nat.reduceAdd, Nat.reduceLT, Nat.reduceLeDiff, reduceIte, and_self, decide_true, decide_false, beq_self_eq_true, g2, g6, List.length_map, dec_lt hlt, dec_nn, Int.toNat_natCast, List.getElem?_map, hg]
    cases ht : (x.kind == 1)
    · have hnt : isTear x = false := ht
      simp only [go_sem, Nat.reduceEqDiff, Nat.reduceAdd, Nat.reduceLT, Nat.reduceLeDiff, reduceIte, and_self, decide_true, decide_false, beq_self_eq_true, g6, hw]
      refine Nx_of (k + 1, ms) (by simp; omega) ?_
      simp only [go_sem, Nat.reduceEqDiff, Nat.reduceAdd, Nat.reduceLT, Nat.reduceLeDiff, reduceIte, and_self, decide_true, decide_false, beq_self_eq_true, g2, g3, g5]
      refine ⟨trivial, trivial, ?_, trivial, hd', by omega, trivial⟩
      rw [htk, List.filter_append, List.filter_cons, hnt]; simp
    · have hnt : isTear x = true := ht
      simp only [go_sem, Nat.reduceEqDiff, Nat.reduceAdd, Nat.reduceLT, Nat.reduceLeDiff, reduceIte, and_self, decide_true, decide_false, beq_self_eq_true, g5, g6, hw, hw2]
      refine Nx_of (k + 1, ms) (by simp; omega) ?_
      simp only [go_sem, Nat.reduceEqDiff, Nat.reduceAdd, Nat.reduceLT, Nat.reduceLeDiff, reduceIte, and_self, decide_true, decide_false, beq_self_eq_true, g2, g3]
      refine ⟨trivial, trivial, ?_, trivial, hd', by omega, trivial⟩
      rw [htk, List.filter_append, List.filter_cons, hnt]; simp
  have hk' := drop_nil hd
  rw [List.take_of_length_le hk'] at g5
  have g5' : e 5 = I64 (tearsL r).length := g5
  have eS := spans_ok r hn
  have htl := tears_le hok
  obtain ⟨m', hm'⟩ : ∃ m' : Mk, m' = ⟨1, m.fr, m.to, m.lo, m.hi⟩ := ⟨_, rfl⟩
  have hmt : isTear m' = true := by rw [hm']; rfl
  have hwi := with_ok r m' (by omega)
  obtain ⟨o, ho⟩ : ∃ o, o = addR r m' := ⟨_, rfl⟩
  have hfe : o.feet = r.feet := by rw [ho]; rfl
  have eo : encM m' = .agg [.int .i64 1, .int .i64 m.fr, .int .i64 m.to, .int .i64 m.lo, .int .i64 m.hi] := by rw [hm']
  rw [← ho, eo] at hwi
  have hgt : (errT r == 0) = true → decide (((tearsL r).length : Int) < ((highT r splicesL : Nat) : Int)) = false := fun hE => by
    have hne : TL r ≠ [] := fun h => by rw [errT_none h0 h] at hE; cases hE
    obtain ⟨_, t, h1, h2⟩ := high_spec h0 hne splicesL
    have := splices_tears hok h1
    exact decide_eq_false (by omega)
  have hcond : ∀ (b : Bool), ((tearsL r).length : Int) < (r.marks.length : Int) → decide (((tearsL r).length : Int) < (r.marks.length : Int)) = true := fun _ h => decide_eq_true h
  cases hE : (errT r == 0)
  all_goals rw [hE] at eS
  case' true =>
    have hgt' := hgt hE
    simp only [go_sem, Nat.reduceEqDiff, Nat.reduceAdd, Nat.reduceLT, Nat.reduceLeDiff, reduceIte, and_self, decide_true, decide_false, beq_self_eq_true, g2, g3, g5', g6, List.length_map, dec_ge hk', sn_ms, hot_ms, true_and, WB47, WVH_eq eS, cnts_get, show cnts[(1 : Nat)]? = some splicesL from rfl, show decide ((0 : Int) ≤ 1) = true from rfl, show Int.toNat 1 = 1 from rfl, spn, hgt', WB46, WVH_eq hwi]
  case' false =>
    simp only [go_sem, Nat.reduceEqDiff, Nat.reduceAdd, Nat.reduceLT, Nat.reduceLeDiff, reduceIte, and_self, decide_true, decide_false, beq_self_eq_true, g2, g3, g5', g6, List.length_map, dec_ge hk', sn_ms, hot_ms, true_and, WB47, WVH_eq eS, WB46, WVH_eq hwi]
  all_goals
    cases cT : decide (((tearsL r).length : Int) < (r.marks.length : Int))
    case' true => simp only [go_sem, Nat.reduceEqDiff, Nat.reduceAdd, Nat.reduceLT, Nat.reduceLeDiff, reduceIte, and_self, decide_true, decide_false, beq_self_eq_true, cT, WB15, WVH_eq works_ok, true_and]
  all_goals
    have htlen : (tearsL r).length = r.marks.length := by
      have := of_decide_eq_false cT
      have := tears_len r
      omega
    obtain ⟨hta, hcl⟩ := all_tears htlen
    have hro := ready_ok o
    cases hroo : readyR o
    all_goals rw [hroo] at hro
    case' false => simp only [go_sem, Nat.reduceEqDiff, Nat.reduceAdd, Nat.reduceLT, Nat.reduceLeDiff, reduceIte, and_self, decide_true, decide_false, beq_self_eq_true, cT, sn_ms, WB40, WVH_eq hro, hot_ms, true_and, WB15, WVH_eq works_ok]
  all_goals
    obtain ⟨hno, h0o, hoko'⟩ := ready_spec hroo
    have hoko : Ok o r.feet.toNat := by rw [← hfe]; exact hoko'
    have hcm := hoko.tearN m' (by rw [ho, (add_tear1 hmt).1]; simp)
    rw [hm'] at hcm
    obtain ⟨q1, q2, q3, q4, q5, q6, q7⟩ := hcm
    dsimp only at q1 q2 q3 q4 q5 q6 q7
    have h9 := hok.nine
    have hwx : IntKind.i64.wrap (IntKind.i64.wrap (m.to - m.fr) + 1) = m.to - m.fr + 1 := by
      rw [wrap_i64 (m.to - m.fr) (by omega) (by omega), wrap_i64 _ (by omega) (by omega)]
    cases cL : decide (m.to - m.fr + 1 < m.lo)
    case' true => simp only [go_sem, Nat.reduceEqDiff, Nat.reduceAdd, Nat.reduceLT, Nat.reduceLeDiff, reduceIte, and_self, decide_true, decide_false, beq_self_eq_true, cT, sn_ms, WB40, WVH_eq hro, hot_ms, true_and, g3, hwx, cL, WB15, WVH_eq works_ok]
  all_goals
    have eSo := spans_ok o hno
    have hmL := of_decide_eq_false cL
    have hclo : claimsL o = [] := by rw [ho, (add_tear1 hmt).2]; exact hcl
    have hto : tearsL o = tearsL r ++ [m'] := by rw [ho]; exact (add_tear1 hmt).1
    have hTo : TL o = truthsL o r.feet.toNat := by show truthsL o o.feet.toNat = _; rw [hfe]
    have hexr := tears_ex hok hcl
    have hexo := tears_ex hoko hclo
    rw [← hTo] at hexo
    simp only [go_sem, Nat.reduceEqDiff, Nat.reduceAdd, Nat.reduceLT, Nat.reduceLeDiff, reduceIte, and_self, decide_true, decide_false, beq_self_eq_true, cT, sn_ms, WB40, WVH_eq hro, hot_ms, true_and, g3, hwx, cL, WB47, WVH_eq eSo]
    refine WL_inv (α := Nat × List Mk) (fun a e mm => e 2 = .ptr 0 0 0 ∧ e 7 = .sl (cnts.map (spn r)) .unk ∧ e 8 = .bool (errT r == 0) ∧ e 10 = .sl (cnts.map (spn o)) .unk ∧ e 11 = .bool (errT o == 0) ∧ e 12 = I64 a.1 ∧ r.marks.drop a.1 = a.2 ∧ a.1 ≤ r.marks.length ∧ mm.blks[0]? = some (.live [encR r] 2) ∧
      ((∀ x ∈ a.2, x.lo ≤ x.to - x.fr + 1) → ∀ x ∈ r.marks, x.lo ≤ x.to - x.fr + 1)) (fun a => r.marks.length - a.1) (0, r.marks) ?_ ?_
    · simp only [go_sem, Nat.reduceEqDiff, Nat.reduceAdd, Nat.reduceLT, Nat.reduceLeDiff, reduceIte, and_self, decide_true, decide_false, beq_self_eq_true, g2, hE]
      exact ⟨trivial, trivial, trivial, trivial, trivial, rfl, trivial, Nat.zero_le _, trivial, fun h => h⟩
    rintro ⟨k2, ms⟩ e ⟨blks, toks⟩ ⟨g2, g7, g8, g10, g11, g12, hd2, hk2, hb0, hA⟩
    dsimp only at g12 hd2 hk2 hb0 hA
    rcases ms with _ | ⟨x, ms⟩
    case' cons =>
      obtain ⟨hg, hd2', hlt2⟩ := drop_cons hd2
      have hw : IntKind.i64.wrap ((k2 : Int) + 1) = ((k2 + 1 : Nat) : Int) := by rw [wrap_i64 _ (by omega) (by omega)]; rfl
      have hxm := List.mem_of_getElem? hg
      obtain ⟨p1, p2, p3, p4, p5, p6, p7⟩ := hok.tearN x (by rw [hta]; exact hxm)
      have hwy : IntKind.i64.wrap (IntKind.i64.wrap (x.to - x.fr) + 1) = x.to - x.fr + 1 := by
        rw [wrap_i64 (x.to - x.fr) (by omega) (by omega), wrap_i64 _ (by omega) (by omega)]
      simp only [go_sem, Nat.reduceEqDiff, Nat.reduceAdd, Nat.reduceLT, Nat.reduceLeDiff, reduceIte, and_self, decide_true, decide_false, beq_self_eq_true, g2, g12, hb0, List.length_map, dec_lt hlt2, dec_nn, Int.toNat_natCast, List.getElem?_map, hg, hwy]
      cases cx : decide (x.to - x.fr + 1 < x.lo)
      case' false =>
        simp only [go_sem, Nat.reduceEqDiff, Nat.reduceAdd, Nat.reduceLT, Nat.reduceLeDiff, reduceIte, and_self, decide_true, decide_false, beq_self_eq_true, g12, hw]
        refine Nx_of (k2 + 1, ms) (by simp; omega) ?_
        simp only [go_sem, Nat.reduceEqDiff, Nat.reduceAdd, Nat.reduceLT, Nat.reduceLeDiff, reduceIte, and_self, decide_true, decide_false, beq_self_eq_true, g2, g7, g8, g10, g11]
        refine ⟨trivial, trivial, trivial, trivial, trivial, trivial, hd2', by omega, hb0, fun h => hA fun y hy => ?_⟩
        have := of_decide_eq_false cx
        rcases List.mem_cons.1 hy with rfl | hy
        · omega
        · exact h y hy
      case' true =>
        have hbad := of_decide_eq_true cx
        have hTr0 : TL r = [] := Classical.byContradiction fun h => by
          have := hexr.1 h x (by rw [hta]; exact hxm)
          omega
        have hTo0 : TL o = [] := Classical.byContradiction fun h => by
          have := hexo.1 h x (by rw [hto, hta]; simp [hxm])
          omega
        have e1 : (errT r == 0) = false := by rw [errT_none h0 hTr0]; rfl
        have e2 : (errT o == 0) = false := by rw [errT_none h0o hTo0]; rfl
        simp only [go_sem, Nat.reduceEqDiff, Nat.reduceAdd, Nat.reduceLT, Nat.reduceLeDiff, reduceIte, and_self, decide_true, decide_false, beq_self_eq_true, g8, g11, e1, e2, WB15, WVH_eq works_ok, true_and]
    case' nil =>
      have hk2' := drop_nil hd2
      have hgood : ∀ x ∈ r.marks, x.lo ≤ x.to - x.fr + 1 := hA fun x hx => by cases hx
      have hTr : TL r ≠ [] := hexr.2 fun x hx => by rw [hta] at hx; exact hgood x hx
      have hToN : TL o ≠ [] := hexo.2 fun x hx => by
        rw [hto, hta] at hx
        rcases List.mem_append.1 hx with hx | hx
        · exact hgood x hx
        · simp at hx; rw [hx, hm']; dsimp only; omega
      have e1 : (errT r == 0) = true := by rw [errT_ne h0 hTr]; rfl
      have e2 : (errT o == 0) = true := by rw [errT_ne h0o hToN]; rfl
      have hh : highT o (popc 16) ≤ highT r (popc 16) ∧ highT o splicesL ≤ highT r splicesL + 1 ∧ highT o longestL ≤ highT r longestL := by
        rw [ho] at hoko h0o hToN ⊢
        exact tear_high h0 h0o hok hoko hcl hmt hTr hToN
      obtain ⟨x1, x2, x3⟩ := hh
      have hsl : highT r splicesL ≤ 10 := by
        obtain ⟨_, t, h1, h2⟩ := high_spec h0 hTr splicesL
        have := splices_tears hok h1
        omega
      have hws : IntKind.i64.wrap (((highT r splicesL : Nat) : Int) + 1) = ((highT r splicesL + 1 : Nat) : Int) := by rw [wrap_i64 _ (by omega) (by omega)]; rfl
      have d1 : decide (((highT o (popc 16) : Nat) : Int) ≤ ((highT r (popc 16) : Nat) : Int)) = true := decide_eq_true (by omega)
      have d2 : decide (((highT o splicesL : Nat) : Int) ≤ ((highT r splicesL + 1 : Nat) : Int)) = true := decide_eq_true (by omega)
      have d3 : decide (((highT o longestL : Nat) : Int) ≤ ((highT r longestL : Nat) : Int)) = true := decide_eq_true (by omega)
      simp only [go_sem, Nat.reduceEqDiff, Nat.reduceAdd, Nat.reduceLT, Nat.reduceLeDiff, reduceIte, and_self, decide_true, decide_false, beq_self_eq_true, g2, g7, g8, g10, g11, g12, hb0, List.length_map, dec_ge hk2', e1, e2, cnts_get, show cnts[(0 : Nat)]? = some (popc 16) from rfl, show cnts[(1 : Nat)]? = some splicesL from rfl, show cnts[(2 : Nat)]? = some longestL from rfl, show decide ((0 : Int) ≤ 1) = true from rfl, show decide ((0 : Int) ≤ 2) = true from rfl, show decide ((0 : Int) ≤ 0) = true from rfl, show Int.toNat 1 = 1 from rfl, show Int.toNat 2 = 2 from rfl, show Int.toNat 0 = 0 from rfl, spn, hws, d1, d2, d3, WB15, WVH_eq works_ok, true_and]
end Go.Ab.T
end

section
namespace Go.Ab.T
set_option maxRecDepth 8000
set_option linter.unusedSimpArgs false
set_option linter.unusedVariables false
set_option maxHeartbeats 4000000
theorem alike_ok (r o : Rl) (hr : Near r) (ho : Near o) (h0 : checkR r = 0) (h1 : checkR o = 0) (hlen : (TL r).length = (TL o).length) (hspan : ∀ c ∈ cnts, lowT r c = lowT o c ∧ highT r c = highT o c) (a b : Int) (hk : footK r a = footK o b) (he : footE r a = footE o b) :
    RV ft 49 [encR r, encR o, I64 a, I64 b] (.bool true) := by
  refine RV_of ft49 rfl ?_
  simp only [c49, r49]
  have eM := Many_ok r hr
  have eMo := Many_ok o ho
  have hM : manyL r = ((TL r).length : Nat) := by unfold manyL; rw [if_pos h0]
  have hMo : manyL o = ((TL r).length : Nat) := by unfold manyL; rw [if_pos h1, hlen]
  rw [hM, h0] at eM
  rw [hMo, h1] at eMo
  have z0 : ((0 : Int) != 0) = false := rfl
  have zm : (((TL r).length : Int) != ((TL r).length : Int)) = false := by simp
  have eS := spans_ok r hr
  have eSo := spans_ok o ho
  have eF := Foot_ok r hr a
  have eFo := Foot_ok o ho b
  rw [← hk, ← he] at eFo
  have zk : (footK r a != footK r a) = false := by simp
  have ze : (footE r a != footE r a) = false := by simp
  have hcl : cnts.length = 3 := rfl
  have hbits : (errT r == 0) = decide ((0 : Int) < ((TL r).length : Int)) ∧ (errT o == 0) = decide ((0 : Int) < ((TL r).length : Int)) := by
    by_cases hne : TL r = []
    · have hne2 : TL o = [] := List.length_eq_zero_iff.1 (by rw [← hlen, hne]; rfl)
      rw [errT_none h0 hne, errT_none h1 hne2, hne]; exact ⟨rfl, rfl⟩
    · have hl : 0 < (TL r).length := List.length_pos_iff.2 hne
      have hne2 : TL o ≠ [] := fun h => by rw [h, List.length_nil] at hlen; omega
      rw [errT_ne h0 hne, errT_ne h1 hne2, decide_eq_true (show (0 : Int) < ((TL r).length : Int) by omega)]; exact ⟨rfl, rfl⟩
  obtain ⟨hb1, hb2⟩ := hbits
  cases hB : decide ((0 : Int) < ((TL r).length : Int))
  all_goals rw [hB] at hb1 hb2; rw [hb1] at eS; rw [hb2] at eSo
  case true =>
    simp only [go_sem, Nat.reduceEqDiff, Nat.reduceAdd, Nat.reduceLT, Nat.reduceLeDiff, reduceIte, and_self, decide_true, decide_false, beq_self_eq_true, sn_ms, hot_ms, WB17, WVH_eq eM, WVH_eq eMo, true_and, z0, zm, WB47, WVH_eq eS, WVH_eq eSo, WB29, WVH_eq eF, WVH_eq eFo, zk, ze, hB, Bool.and_true, show (true == true) = true from rfl, Bool.not_true]
    refine WL_inv (α := Nat × List (Nat → Nat)) (fun q e mm => e 13 = .sl (cnts.map (spn r)) .unk ∧ e 15 = .sl (cnts.map (spn o)) .unk ∧ e 14 = .bool true ∧ e 21 = I64 q.1 ∧ cnts.drop q.1 = q.2 ∧ q.1 ≤ cnts.length) (fun q => cnts.length - q.1) (0, cnts) ?_ ?_
    · simp only [go_sem, Nat.reduceEqDiff, Nat.reduceAdd, Nat.reduceLT, Nat.reduceLeDiff, reduceIte, and_self, decide_true, decide_false, beq_self_eq_true]
      exact ⟨trivial, trivial, trivial, rfl, trivial, Nat.zero_le _⟩
    rintro ⟨k, cs⟩ e ⟨blks, toks⟩ ⟨g13, g15, g14, g21, hd, hk⟩
    dsimp only at g21 hd hk
    rcases cs with _ | ⟨c, cs⟩
    · have hk' := drop_nil hd
      simp only [go_sem, Nat.reduceEqDiff, Nat.reduceAdd, Nat.reduceLT, Nat.reduceLeDiff, reduceIte, and_self, decide_true, decide_false, beq_self_eq_true, g13, g14, g15, g21, List.length_map, dec_ge hk']
    · obtain ⟨hg, hd', hlt⟩ := drop_cons hd
      have hw : IntKind.i64.wrap ((k : Int) + 1) = ((k + 1 : Nat) : Int) := by rw [wrap_i64 _ (by omega) (by omega)]; rfl
      obtain ⟨s1, s2⟩ := hspan c (List.mem_of_getElem? hg)
      simp only [go_sem, Nat.reduceEqDiff, Nat.reduceAdd, Nat.reduceLT, Nat.reduceLeDiff, reduceIte, and_self, decide_true, decide_false, beq_self_eq_true, g13, g14, g15, g21, List.length_map, dec_lt hlt, dec_nn, Int.toNat_natCast, cnts_get, hg, spn, s1, s2, Bool.and_self, Bool.and_true, Bool.not_true, hw]
      refine Nx_of (k + 1, cs) (by simp; omega) ?_
      simp only [go_sem, Nat.reduceEqDiff, Nat.reduceAdd, Nat.reduceLT, Nat.reduceLeDiff, reduceIte, and_self, decide_true, decide_false, beq_self_eq_true, g13, g14, g15]
      exact ⟨trivial, trivial, trivial, trivial, hd', by omega⟩
  case false =>
    simp only [go_sem, Nat.reduceEqDiff, Nat.reduceAdd, Nat.reduceLT, Nat.reduceLeDiff, reduceIte, and_self, decide_true, decide_false, beq_self_eq_true, sn_ms, hot_ms, WB17, WVH_eq eM, WVH_eq eMo, true_and, z0, zm, WB47, WVH_eq eS, WVH_eq eSo, WB29, WVH_eq eF, WVH_eq eFo, zk, ze, hB, Bool.and_true, show (false == false) = true from rfl, Bool.not_true]
    refine WL_inv (α := Unit) (fun q e mm => e 13 = .sl (cnts.map (spn r)) .unk ∧ e 14 = .bool false ∧ e 21 = I64 0) (fun q => 0) () ?_ ?_
    · simp only [go_sem, Nat.reduceEqDiff, Nat.reduceAdd, Nat.reduceLT, Nat.reduceLeDiff, reduceIte, and_self, decide_true, decide_false, beq_self_eq_true]
    rintro _ e ⟨blks, toks⟩ ⟨g13, g14, g21⟩
    simp only [go_sem, Nat.reduceEqDiff, Nat.reduceAdd, Nat.reduceLT, Nat.reduceLeDiff, reduceIte, and_self, decide_true, decide_false, beq_self_eq_true, g13, g14, g21, List.length_map, hcl, show decide ((0 : Int) < ((3 : Nat) : Int)) = true from rfl]
end Go.Ab.T
end

section
namespace Go.Ab.T
set_option maxRecDepth 8000
set_option linter.unusedSimpArgs false
set_option linter.unusedVariables false
set_option maxHeartbeats 4000000
theorem idx5 (blks : List Blk) (toks : List (Nat × Nat)) (id N k : Nat) (es : List AV) (hb : blks[id]? = some (.live es 5)) (hk : k < N) : idxAt ⟨blks, toks⟩ (.ref id 0 N) (I64 k) 5 = some (.ptr id k 0) := by
  rw [idxAt_ref, lsz_eq, Mem.blks, hb, if_pos ⟨⟨by omega, by omega⟩, rfl⟩, Int.toNat_natCast, Nat.zero_add]
theorem ld5 (blks : List Blk) (toks : List (Nat × Nat)) (id k : Nat) (ms : List Mk) (x : Mk) (hb : blks[id]? = some (.live (ms.map encM) 5)) (hx : ms[k]? = some x) : loadAt ⟨blks, toks⟩ (.ptr id k 0) (some 5) = some (encM x) := by
  simp only [loadAt, hb, List.getElem?_map, hx, Option.map_some]
  rfl
theorem st5 (blks : List Blk) (toks : List (Nat × Nat)) (id k : Nat) (ms : List Mk) (x y : Mk) (hb : blks[id]? = some (.live (ms.map encM) 5)) (hx : ms[k]? = some x) : storeAt ⟨blks, toks⟩ (.ptr id k 0) (encM y) 5 = some ⟨blks.set id (.live ((ms.set k y).map encM) 5), toks⟩ := by
  simp only [storeAt, hb, List.getElem?_map, hx, Option.map_some, List.map_set]
  rfl
theorem swap_perm {l : List Mk} {j : Nat} {x y : Mk} (hx : l[j]? = some x) (hy : l[j + 1]? = some y) : ((l.set (j + 1) x).set j y).Perm l := by
  have hj := (List.getElem?_eq_some_iff.1 hy).1
  have e1 : l = l.take j ++ x :: y :: l.drop (j + 2) := by
    apply List.ext_getElem?
    intro i
    by_cases h1 : i < j
    · rw [List.getElem?_append_left (by rw [List.length_take]; omega), List.getElem?_take, if_pos h1]
    · rw [List.getElem?_append_right (by rw [List.length_take]; omega), List.length_take, Nat.min_eq_left (by omega)]
      by_cases h2 : i = j
      · subst h2; rw [Nat.sub_self, hx]; rfl
      · by_cases h3 : i = j + 1
        · subst h3; rw [hy, show j + 1 - j = 1 by omega]; rfl
        · rw [show i - j = (i - (j + 2)) + 1 + 1 by omega, List.getElem?_cons_succ, List.getElem?_cons_succ, List.getElem?_drop]
          congr 1; omega
  have e2 : (l.set (j + 1) x).set j y = l.take j ++ y :: x :: l.drop (j + 2) := by
    apply List.ext_getElem?
    intro i
    by_cases h1 : i < j
    · rw [List.getElem?_append_left (by rw [List.length_take]; omega), List.getElem?_take, if_pos h1, List.getElem?_set_ne (by omega), List.getElem?_set_ne (by omega)]
    · rw [List.getElem?_append_right (by rw [List.length_take]; omega), List.length_take, Nat.min_eq_left (by omega)]
      by_cases h2 : i = j
      · subst h2; rw [Nat.sub_self, List.getElem?_set_self (by rw [List.length_set]; omega)]; rfl
      · by_cases h3 : i = j + 1
        · subst h3; rw [List.getElem?_set_ne (by omega), List.getElem?_set_self (by omega), show j + 1 - j = 1 by omega]; rfl
        · rw [List.getElem?_set_ne (by omega), List.getElem?_set_ne (by omega), show i - j = (i - (j + 2)) + 1 + 1 by omega, List.getElem?_cons_succ, List.getElem?_cons_succ, List.getElem?_drop]
          congr 1; omega
  rw [e2]
  conv => rhs; rw [e1]
  exact List.Perm.append_left _ (List.Perm.swap _ _ _)
theorem perm_alike {r o : Rl} (hr : Near r) (h0 : checkR r = 0) (hf : o.feet = r.feet) (hp : r.marks.Perm o.marks) (n : Int) (n1 : 0 ≤ n) (n2 : n < r.feet) : RV ft 49 [encR r, encR o, I64 n, I64 n] (.bool true) := by
  have hok := hr.ok h0
  have hoko := perm_ok hok hf hp
  have ho := ok_near hoko
  have h1 := ok_check hoko
  have hTo : TL o = truthsL o r.feet.toNat := by show truthsL o o.feet.toNat = _; rw [hf]
  have hs : ∀ t, t ∈ TL r ↔ t ∈ TL o := fun t => by rw [hTo]; exact perm_mem hok hoko hp t
  have hlen : (TL r).length = (TL o).length := len_of_mem (truths_nodup hok) (by rw [hTo]; exact truths_nodup hoko) hs
  have hfoot : footK r n = footK o n ∧ footE r n = footE o n := by
    by_cases hne : TL o = []
    · have hrn : TL r = [] := List.length_eq_zero_iff.1 (by rw [hlen, hne]; rfl)
      have e1 : footE r n = 3 := by unfold footE wholeE; rw [if_pos h0, if_pos ⟨n1, Int.le_refl _, n2⟩, errT_none h0 hrn]
      have e2 : footE o n = 3 := by unfold footE wholeE; rw [if_pos h1, if_pos ⟨n1, Int.le_refl _, by omega⟩, errT_none h1 hne]
      have k1 : footK r n = 0 := by unfold footK; rw [if_neg (by show ¬footE r n = 0; rw [e1]; decide)]
      have k2 : footK o n = 0 := by unfold footK; rw [if_neg (by show ¬footE o n = 0; rw [e2]; decide)]
      rw [e1, e2, k1, k2]; exact ⟨rfl, rfl⟩
    · have hrn : TL r ≠ [] := fun h => hne (List.length_eq_zero_iff.1 (by rw [← hlen, h]; rfl))
      obtain ⟨a1, a2⟩ := footK_eq hr h0 n1 n2 hrn
      obtain ⟨b1, b2⟩ := footK_eq ho h1 n1 (by omega) hne
      rw [a1, a2, b1, b2]
      refine ⟨?_, rfl⟩
      have sub : ∀ p : Nat → Bool, (knownL r).all p = (knownL o).all p := fun p => by
        rw [Bool.eq_iff_iff, List.all_eq_true, List.all_eq_true]
        exact ⟨fun h t ht => h t ((known_mem hr h0 t).2 ((hs t).2 ((known_mem ho h1 t).1 ht))), fun h t ht => h t ((known_mem ho h1 t).2 ((hs t).1 ((known_mem hr h0 t).1 ht)))⟩
      unfold footOf
      rw [sub, sub]
  exact alike_ok r o hr ho h0 h1 hlen (fun c _ => same_span h0 h1 hs c) n n hfoot.1 hfoot.2
theorem ReelOrder_run (r : Rl) (l : List Int) (n : Int) : RV ft 9 [encR r, .agg [encI l, I64 n]] (.bool true) := by
  refine RV_of ft9 rfl ?_
  simp only [c9, r9]
  cases hr : readyR r
  case false => simp only [go_sem, Nat.reduceEqDiff, Nat.reduceAdd, Nat.reduceLT, Nat.reduceLeDiff, reduceIte, and_self, decide_true, decide_false, beq_self_eq_true, sn_ms, hot_ms, WB40, WVH_eq (ready_ok r), true_and, hr, WB15, WVH_eq works_ok]
  cases c1 : decide ((40 : Int) < (l.length : Int))
  case true => simp only [go_sem, Nat.reduceEqDiff, Nat.reduceAdd, Nat.reduceLT, Nat.reduceLeDiff, reduceIte, and_self, decide_true, decide_false, beq_self_eq_true, sn_ms, hot_ms, WB40, WVH_eq (ready_ok r), true_and, hr, List.length_map, c1, WB15, WVH_eq works_ok]
  cases c2 : decide (n < 0)
  case true => simp only [go_sem, Nat.reduceEqDiff, Nat.reduceAdd, Nat.reduceLT, Nat.reduceLeDiff, reduceIte, and_self, decide_true, decide_false, beq_self_eq_true, sn_ms, hot_ms, WB40, WVH_eq (ready_ok r), true_and, hr, List.length_map, c1, c2, WB15, WVH_eq works_ok]
  cases c3 : decide (r.feet ≤ n)
  case true => simp only [go_sem, Nat.reduceEqDiff, Nat.reduceAdd, Nat.reduceLT, Nat.reduceLeDiff, reduceIte, and_self, decide_true, decide_false, beq_self_eq_true, sn_ms, hot_ms, WB40, WVH_eq (ready_ok r), true_and, hr, List.length_map, c1, c2, c3, WB15, WVH_eq works_ok]
  obtain ⟨hn, h0, hok⟩ := ready_spec hr
  have h10 := hok.ten
  have n1 := of_decide_eq_false c2
  have n2 := of_decide_eq_false c3
  have h40 := of_decide_eq_false c1
  simp only [go_sem, Nat.reduceEqDiff, Nat.reduceAdd, Nat.reduceLT, Nat.reduceLeDiff, reduceIte, and_self, decide_true, decide_false, beq_self_eq_true, sn_ms, hot_ms, WB40, WVH_eq (ready_ok r), true_and, hr, List.length_map, c1, c2, c3, WB16]
  refine Copy_ok r hn.few _ (fun he => ?_) (fun he => ?_)
  · obtain ⟨f, ms⟩ := r
    dsimp only at he
    subst he
    have hal := perm_alike (o := ⟨f, []⟩) hn h0 rfl (List.Perm.refl _) n (by omega) (by simpa using n2)
    simp only [encR, List.map_nil] at hal
    simp only [go_sem, Nat.reduceEqDiff, Nat.reduceAdd, Nat.reduceLT, Nat.reduceLeDiff, reduceIte, and_self, decide_true, decide_false, beq_self_eq_true, hot_ms, true_and, encR, List.map_nil, join_none, shift_none, List.any_nil, Bool.false_eq_true]
    refine WL_inv (α := Unit) (fun _ e mm => e 2 = .ptr 0 0 0 ∧ e 3 = .ptr 1 0 0 ∧ e 5 = .ptr 4 0 0 ∧ e 6 = I64 0 ∧ mm.blks[0]? = some (.live [.agg [I64 f, .sl [] .unk]] 2) ∧ mm.blks[1]? = some (.live [.agg [encI l, I64 n]] 2) ∧ mm.blks[4]? = some (.live [.agg [I64 f, .sl [] .tight]] 2)) (fun _ => 0) () ?_ ?_
    · simp only [go_sem, Nat.reduceEqDiff, Nat.reduceAdd, Nat.reduceLT, Nat.reduceLeDiff, reduceIte, and_self, decide_true, decide_false, beq_self_eq_true]
    rintro _ e ⟨blks, toks⟩ ⟨g2, g3, g5, g6, hb0, hb1, hb4⟩
    dsimp only at hb0 hb1 hb4
    simp only [go_sem, Nat.reduceEqDiff, Nat.reduceAdd, Nat.reduceLT, Nat.reduceLeDiff, reduceIte, and_self, decide_true, decide_false, beq_self_eq_true, g2, g3, g5, g6, hb0, hb1, hb4, List.length_nil, show decide ((0 : Int) < ((0 : Nat) : Int)) = false from rfl, WB49, List.any_nil, List.map_nil, WVH_eq hal, true_and, WB15, WVH_eq works_ok]
  · have hx1 : ∀ m : Mem, snap m 8 (.ref 4 0 r.marks.length) = snap m 8 (.ref 4 0 r.marks.length) := fun _ => rfl
    simp only [go_sem, Nat.reduceEqDiff, Nat.reduceAdd, Nat.reduceLT, Nat.reduceLeDiff, reduceIte, and_self, decide_true, decide_false, beq_self_eq_true, hot_ms, true_and, join_copy, shift_copy]
    have hlen1 : 1 ≤ r.marks.length := by
      have : r.marks.length ≠ 0 := fun h => he (List.length_eq_zero_iff.1 h)
      omega
    refine WL_inv (α := Nat × List Mk) (fun a e mm => e 2 = .ptr 0 0 0 ∧ e 3 = .ptr 1 0 0 ∧ e 5 = .ptr 5 0 0 ∧ e 6 = I64 a.1 ∧ a.1 ≤ r.marks.length ∧ r.marks.Perm a.2 ∧ mm.blks[0]? = some (.live [encR r] 2) ∧ mm.blks[1]? = some (.live [.agg [encI l, I64 n]] 2) ∧ mm.blks[4]? = some (.live (a.2.map encM) 5) ∧ mm.blks[5]? = some (.live [.agg [I64 r.feet, .ref 4 0 r.marks.length]] 2)) (fun a => r.marks.length - a.1) (0, r.marks) ?_ ?_
    · simp only [go_sem, Nat.reduceEqDiff, Nat.reduceAdd, Nat.reduceLT, Nat.reduceLeDiff, reduceIte, and_self, decide_true, decide_false, beq_self_eq_true]
      exact ⟨trivial, trivial, trivial, rfl, Nat.zero_le _, List.Perm.refl _, trivial⟩
    rintro ⟨i, ms⟩ e ⟨blks, toks⟩ ⟨g2, g3, g5, g6, hi, hp, hb0, hb1, hb4, hb5⟩
    dsimp only at g6 hi hp hb0 hb1 hb4 hb5
    -- the end
    have hfin : ∀ (ms : List Mk) (blks : List Blk) (toks : List (Nat × Nat)) , r.marks.Perm ms → blks[4]? = some (.live (ms.map encM) 5) → snap ⟨blks, toks⟩ 9 (.agg [I64 r.feet, .ref 4 0 r.marks.length]) = encR ⟨r.feet, ms⟩ := fun ms blks toks hp hb => by
      have h1 : (ms.map encM).take r.marks.length = ms.map encM := List.take_of_length_le (by rw [List.length_map, hp.length_eq]; omega)
      have h2 : r.marks.length ≤ (ms.map encM).length := by rw [List.length_map, hp.length_eq]; omega
      simp only [go_sem, Nat.reduceEqDiff, Nat.reduceAdd, Nat.reduceLT, Nat.reduceLeDiff, reduceIte, and_self, decide_true, decide_false, beq_self_eq_true, Mem.elems, hb, Nat.zero_add, h2, h1, sn_ms]
    have hal := fun ms (hp : r.marks.Perm ms) => perm_alike (o := ⟨r.feet, ms⟩) hn h0 rfl hp n (by omega) (by omega)
    by_cases hlt : i < r.marks.length
    case neg =>
      have hal' := hal ms hp
      have h1 : (ms.map encM).take r.marks.length = ms.map encM := List.take_of_length_le (by rw [List.length_map, hp.length_eq]; omega)
      have h2 : (r.marks.length ≤ ms.length) := by rw [hp.length_eq]; omega
      simp only [go_sem, Nat.reduceEqDiff, Nat.reduceAdd, Nat.reduceLT, Nat.reduceLeDiff, reduceIte, and_self, decide_true, decide_false, beq_self_eq_true, g2, g3, g5, g6, hb0, hb1, hb4, hb5, dec_ge (show r.marks.length ≤ i by omega), WB49, Mem.elems, Nat.zero_add, List.length_map, h2, h1, sn_ms, hot_ms, WVH_eq hal', true_and, WB15, WVH_eq works_ok]
    by_cases hil : i < l.length
    case neg =>
      have hal' := hal ms hp
      have h1 : (ms.map encM).take r.marks.length = ms.map encM := List.take_of_length_le (by rw [List.length_map, hp.length_eq]; omega)
      have h2 : (r.marks.length ≤ ms.length) := by rw [hp.length_eq]; omega
      simp only [go_sem, Nat.reduceEqDiff, Nat.reduceAdd, Nat.reduceLT, Nat.reduceLeDiff, reduceIte, and_self, decide_true, decide_false, beq_self_eq_true, g2, g3, g5, g6, hb0, hb1, hb4, hb5, dec_lt hlt, List.length_map, dec_ge (show l.length ≤ i by omega), WB49, Mem.elems, Nat.zero_add, List.length_map, h2, h1, sn_ms, hot_ms, WVH_eq hal', true_and, WB15, WVH_eq works_ok]
    have hw : IntKind.i64.wrap ((i : Int) + 1) = ((i + 1 : Nat) : Int) := by rw [wrap_i64 _ (by omega) (by omega)]; rfl
    obtain ⟨v, hv⟩ : ∃ v, l[i]? = some v := ⟨l[i], by simp⟩
    simp only [go_sem, Nat.reduceEqDiff, Nat.reduceAdd, Nat.reduceLT, Nat.reduceLeDiff, reduceIte, and_self, decide_true, decide_false, beq_self_eq_true, g2, g3, g5, g6, hb0, hb1, hb4, hb5, dec_lt hlt, List.length_map, dec_lt hil]
    refine WL_inv (α := Nat × List Mk) (fun a e mm => e 2 = .ptr 0 0 0 ∧ e 3 = .ptr 1 0 0 ∧ e 5 = .ptr 5 0 0 ∧ e 6 = I64 i ∧ e 7 = I64 a.1 ∧ a.1 ≤ i ∧ r.marks.Perm a.2 ∧ mm.blks[0]? = some (.live [encR r] 2) ∧ mm.blks[1]? = some (.live [.agg [encI l, I64 n]] 2) ∧ mm.blks[4]? = some (.live (a.2.map encM) 5) ∧ mm.blks[5]? = some (.live [.agg [I64 r.feet, .ref 4 0 r.marks.length]] 2)) (fun a => a.1) (i, ms) ?_ ?_
    · simp only [go_sem, Nat.reduceEqDiff, Nat.reduceAdd, Nat.reduceLT, Nat.reduceLeDiff, reduceIte, and_self, decide_true, decide_false, beq_self_eq_true, g2, g3, g5, g6]
      exact ⟨trivial, trivial, trivial, trivial, trivial, Nat.le_refl _, hp, hb0, hb1, hb4, hb5⟩
    rintro ⟨k, ms⟩ e ⟨blks, toks⟩ ⟨g2, g3, g5, g6, g7, hki, hp, hb0, hb1, hb4, hb5⟩
    dsimp only at g7 hki hp hb0 hb1 hb4 hb5
    rcases k with _ | j
    · simp only [go_sem, Nat.reduceEqDiff, Nat.reduceAdd, Nat.reduceLT, Nat.reduceLeDiff, reduceIte, and_self, decide_true, decide_false, beq_self_eq_true, g2, g3, g5, g6, g7, show decide ((0 : Int) < ((0 : Nat) : Int)) = false from rfl, hw]
      refine Nx_of (i + 1, ms) (by simp; omega) ?_
      simp only [go_sem, Nat.reduceEqDiff, Nat.reduceAdd, Nat.reduceLT, Nat.reduceLeDiff, reduceIte, and_self, decide_true, decide_false, beq_self_eq_true, g2, g3, g5]
      exact ⟨trivial, trivial, trivial, trivial, by omega, hp, hb0, hb1, hb4, hb5⟩
    have hpos : decide ((0 : Int) < ((j + 1 : Nat) : Int)) = true := decide_eq_true (by omega)
    have hiv : (l.map fun (i : Int) => I64 i)[i]? = some (I64 v) := by rw [List.getElem?_map, hv]; rfl
    simp only [go_sem, Nat.reduceEqDiff, Nat.reduceAdd, Nat.reduceLT, Nat.reduceLeDiff, reduceIte, and_self, decide_true, decide_false, beq_self_eq_true, g2, g3, g5, g6, g7, hpos, hb1, dec_nn, Int.toNat_natCast, hiv]
    cases cv : decide (IntKind.i64.wrap ((i : Int) - v) < ((j + 1 : Nat) : Int))
    case false =>
      simp only [go_sem, Nat.reduceEqDiff, Nat.reduceAdd, Nat.reduceLT, Nat.reduceLeDiff, reduceIte, and_self, decide_true, decide_false, beq_self_eq_true, cv, g6, hw]
      refine Nx_of (i + 1, ms) (by simp; omega) ?_
      simp only [go_sem, Nat.reduceEqDiff, Nat.reduceAdd, Nat.reduceLT, Nat.reduceLeDiff, reduceIte, and_self, decide_true, decide_false, beq_self_eq_true, g2, g3, g5]
      exact ⟨trivial, trivial, trivial, trivial, by omega, hp, hb0, hb1, hb4, hb5⟩
    case true =>
      have hpl := hp.length_eq
      obtain ⟨x, hx⟩ : ∃ x, ms[j]? = some x := ⟨ms[j], by simp⟩
      obtain ⟨y, hy⟩ : ∃ y, ms[j + 1]? = some y := ⟨ms[j + 1], by simp⟩
      have hwj : IntKind.i64.wrap (((j + 1 : Nat) : Int) - 1) = ((j : Nat) : Int) := by
        rw [wrap_i64 _ (by omega) (by omega)]; omega
      have h4l := (List.getElem?_eq_some_iff.1 hb4).1
      have hc1 : (blks.set 4 (.live ((ms.set (j + 1) x).map encM) 5))[4]? = some (.live ((ms.set (j + 1) x).map encM) 5) := List.getElem?_set_self h4l
      have hx2 : (ms.set (j + 1) x)[j]? = some x := by rw [List.getElem?_set_ne (by omega)]; exact hx
      have hs1 := st5 blks toks 4 (j + 1) ms y x hb4 hy
      have hs2 := st5 (blks.set 4 (.live ((ms.set (j + 1) x).map encM) 5)) toks 4 j (ms.set (j + 1) x) x y hc1 hx2
      have hi1 := idx5 blks toks 4 r.marks.length (j + 1) _ hb4 (by omega)
      have hi2 := idx5 blks toks 4 r.marks.length j _ hb4 (by omega)
      have hi3 := idx5 (blks.set 4 (.live ((ms.set (j + 1) x).map encM) 5)) toks 4 r.marks.length j _ hc1 (by omega)
      have hl1 := ld5 blks toks 4 (j + 1) ms y hb4 hy
      have hl2 := ld5 blks toks 4 j ms x hb4 hx
      simp only [go_sem, Nat.reduceEqDiff, Nat.reduceAdd, Nat.reduceLT, Nat.reduceLeDiff, reduceIte, and_self, decide_true, decide_false, beq_self_eq_true, cv, g5, g7, hb5, hwj, hi1, hi2, hl1, hl2, hs1, hi3, hs2, show ((5 : Nat) != 4) = true from rfl, Bool.and_self]
      refine Nx_of (j, (ms.set (j + 1) x).set j y) (by simp) ?_
      simp only [go_sem, Nat.reduceEqDiff, Nat.reduceAdd, Nat.reduceLT, Nat.reduceLeDiff, reduceIte, and_self, decide_true, decide_false, beq_self_eq_true, g2, g3, g5, g6]
      refine ⟨trivial, trivial, trivial, trivial, trivial, by omega, hp.trans (swap_perm hx hy).symm, ?_, ?_, ?_, ?_⟩
      · rw [List.getElem?_set_ne (by omega), List.getElem?_set_ne (by omega)]; exact hb0
      · rw [List.getElem?_set_ne (by omega), List.getElem?_set_ne (by omega)]; exact hb1
      · rw [List.getElem?_set_self (by rw [List.length_set]; exact h4l)]
      · rw [List.getElem?_set_ne (by omega), List.getElem?_set_ne (by omega)]; exact hb5
end Go.Ab.T
end
