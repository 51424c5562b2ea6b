/-
  A part of the proofs over this seat.
  (The texts KzK11, one behind the other.)
-/
import Derived.Test.YtedkegliicileaaP3
set_option linter.unusedSimpArgs false
set_option linter.unusedVariables false
set_option linter.unusedSectionVars false
section
namespace Go.Ab.T
set_option maxRecDepth 8000
set_option maxHeartbeats 4000000
theorem in2_ok (a b n : Int) (h0 : a ≤ n) (h1 : n ≤ b) : RV ft 19 [.agg [I64 a, I64 b], I64 n] (.bool true) := by
  have := in_ok ⟨a, b⟩ n
  rw [show inR n a b = true from inR_iff.2 ⟨h0, h1⟩] at this
  exact this
theorem eqvB (a b : Bool) : eqAV false [.b] (.bool a) (.bool b) = some (a == b) := by
  show eqs [.b] [.bool a] [.bool b] = _
  rw [eqs_b, eqs_nil]; simp
theorem snA2 (m : Mem) (q : Nat) (a b : Int) : snap m (q + 2) (.agg [I64 a, I64 b]) = .agg [I64 a, I64 b] := rfl
theorem TurnReal_run (h : Hs) (l : List Sl) (rs cs : List Int) (rate : Int) : RV ft 3 [encH h, encSs l, encX rs cs rate] (.bool true) := by
  refine RV_of ft3 rfl ?_
  simp only [c3, r3]
  cases hv : validL h l
  case false => simp only [go_sem, Nat.reduceEqDiff, Nat.reduceAdd, Nat.reduceLT, Nat.reduceLeDiff, reduceIte, and_self, decide_true, decide_false, beq_self_eq_true, HCells, HEta, XCells, solidI, cellsI, WB13, snH, hotH, snSs, hotSs, WVH_eq (valid_ok h l), hv, true_and, WB15, WVH_eq works_ok]
  have hV := validL_iff.1 hv
  have hl12 := hV.len
  have hIC := IsCase_ok h l rs cs rate (by omega)
  cases hic : isC h l rs cs rate
  case false => simp only [go_sem, Nat.reduceEqDiff, Nat.reduceAdd, Nat.reduceLT, Nat.reduceLeDiff, reduceIte, and_self, decide_true, decide_false, beq_self_eq_true, HCells, HEta, XCells, XEta, solidI, cellsI, WB13, snH, hotH, snSs, hotSs, WVH_eq (valid_ok h l), hv, true_and, WB14, snX, hotX, WVH_eq hIC, hic, WB15, WVH_eq works_ok]
  have hC := isC_CV hic
  have hT := TimesV_ok hV
  have hL := LateV_ok hV
  have hd0 := hV.H.d0
  have hd2 := hV.H.d2
  have hcr0 := hC.r0
  have hcr1 := hC.r1
  have hR := Run_ok h hV.H l rs cs rate (by omega) hC.l1 hC.l2 (by omega) (by omega) (case_IB hV hC)
  obtain ⟨evs, hevs⟩ : ∃ evs, evs = sim h.early rate h.walk (mkIts l rs cs) zeroI zeroI := ⟨_, rfl⟩
  rw [← hevs] at hR
  have hevl : evs.length = l.length := by rw [hevs, sim_len, mkIts_len l rs cs hC.l1 hC.l2]
  have hlen : ((tz h l).length : Int) = l.length := by rw [tz_len]
  have hne : ((l.length : Int) != (l.length : Int)) = false := by simp
  have h00 : ((0 : Int) != 0) = false := rfl
  obtain ⟨L, hLd⟩ : ∃ L, L = (lateE h l).1 := ⟨_, rfl⟩
  obtain ⟨B, hBd⟩ : ∃ B, B = (lateE h l).2 := ⟨_, rfl⟩
  rw [← hLd, ← hBd] at hL
  -- what is known of L and B
  have hLB : -1 ≤ L ∧ L < l.length ∧ 0 ≤ B ∧ ((L == -1) = (B == 0)) ∧ ∀ (i : Nat) s e b, l[i]? = some s → evs[i]? = some e → (simH h true l zeroI zeroI)[i]? = some b → e.le b → (s.bg < e.start → L ≠ -1 ∧ L ≤ i) ∧ ((i : Int) = L → e.start - s.bg ≤ B) := by
    rcases late_spec hV with ⟨h1, h2⟩ | ⟨j, s', e', h1, h2, h3, h4, h5⟩
    · rw [h1] at hLd hBd
      subst hLd; subst hBd
      refine ⟨by omega, by omega, by omega, rfl, fun i s e b hs he hb hle => ?_⟩
      have := h2 i s b hs hb
      have := hle.2.2.1
      exact ⟨fun h => by omega, fun h => by omega⟩
    · rw [h4] at hLd hBd
      dsimp only at hLd hBd
      have hj : j < l.length := (List.getElem?_eq_some_iff.1 h1).1
      refine ⟨by omega, by omega, by omega, ?_, fun i s e b hs he hb hle => ?_⟩
      · rw [show (L == -1) = false by rw [beq_eq_false_iff_ne]; omega, show (B == 0) = false by rw [beq_eq_false_iff_ne]; omega]
      · have hst := hle.2.2.1
        refine ⟨fun hlate => ⟨by omega, ?_⟩, fun hij => ?_⟩
        · refine Classical.byContradiction fun hn => ?_
          have := h5 i s b (by omega) hs hb
          omega
        · have : i = j := by omega
          subst this
          rw [h1] at hs; cases hs
          rw [h2] at hb; cases hb
          omega
  obtain ⟨l0, l1, l2, l3, l4⟩ := hLB
  have d1 : decide (L < -1) = false := decide_eq_false (by omega)
  have d2 : decide ((l.length : Int) ≤ L) = false := decide_eq_false (by omega)
  have d3 : decide (B < 0) = false := decide_eq_false (by omega)
  have d4 : ((B == 0) == (B == 0)) = true := by simp
  simp only [go_sem, Nat.reduceEqDiff, Nat.reduceAdd, Nat.reduceLT, Nat.reduceLeDiff, reduceIte, and_self, decide_true, decide_false, beq_self_eq_true, HCells, HEta, XCells, XEta, solidI, cellsI, WB13, snH, hotH, snSs, hotSs, WVH_eq (valid_ok h l), hv, true_and, WB14, snX, hotX, WVH_eq hIC, hic, WB16, WVH_eq hT, WB17, WVH_eq hL, Ms_len, Ss_len, hlen, hne, h00, d1, d2, d3, eqvB, l3, d4, if_true, WB18, WVH_eq hR]
  refine WL_inv (α := Nat) (fun q e mm => e 1 = encSs l ∧ e 7 = encMs (tz h l) ∧ e 9 = I64 L ∧ e 10 = I64 B ∧ e 12 = encEs evs ∧ e 13 = I64 q ∧ ∃ bl tk, mm = ⟨bl, tk⟩) (fun q => l.length - q) 0 ?_ ?_
  · simp only [go_sem, Nat.reduceEqDiff, Nat.reduceAdd, Nat.reduceLT, Nat.reduceLeDiff, reduceIte, and_self, decide_true, decide_false, beq_self_eq_true]
    exact ⟨trivial, trivial, trivial, trivial, trivial, rfl, _, _, rfl⟩
  rintro i e mm ⟨g1, g7, g9, g10, g12, g13, bl, tk, rfl⟩
  by_cases hlt : i < l.length
  case neg =>
    simp only [go_sem, Nat.reduceEqDiff, Nat.reduceAdd, Nat.reduceLT, Nat.reduceLeDiff, reduceIte, and_self, decide_true, decide_false, beq_self_eq_true, g1, g7, g9, g10, g12, g13, Ss_len, dec_ge (Nat.le_of_not_lt hlt), WB15, WVH_eq works_ok, true_and]
  obtain ⟨s, hs⟩ : ∃ s, l[i]? = some s := ⟨_, List.getElem?_eq_getElem hlt⟩
  obtain ⟨p, hp⟩ : ∃ p, (tz h l)[i]? = some p := ⟨_, List.getElem?_eq_getElem (by rw [tz_len]; exact hlt)⟩
  obtain ⟨E, hE⟩ : ∃ E, evs[i]? = some E := ⟨_, List.getElem?_eq_getElem (by rw [hevl]; exact hlt)⟩
  obtain ⟨p1, p2⟩ := tz_get.1 hp
  have hE' := hE
  rw [hevs] at hE'
  obtain ⟨m1, m2⟩ := case_mid hV hC p1 hE' p2
  have hl4 := l4 i s E p.2 hs hE p2 m2
  have hu1 := simH_up hV false hs p1
  have hu2 := simH_up hV true hs p2
  have hbd1 := simH_b hV false p1
  have hbd2 := simH_b hV true p2
  have hS := hV.S s (List.mem_of_getElem? hs)
  have r0 := hS.r0
  have r1 := hS.r1
  have k0 := hV.H.c0
  have k1 := hV.H.c1
  have hb0 := hV.b0 s (List.mem_of_getElem? hs)
  have hb1 := hV.b1 s (List.mem_of_getElem? hs)
  simp only [Sp.of, Bool.false_eq_true, if_false, if_true] at hu1 hu2
  obtain ⟨x1, x2, x3, x4, x5⟩ := m1
  obtain ⟨y1, y2, y3, y4, y5⟩ := m2
  have w1 : IntKind.i64.wrap (E.start - s.bg) = E.start - s.bg := wrap_i64 _ (by omega) (by omega)
  have n1 : decide (E.start - s.bg < 0) = false := decide_eq_false (by omega)
  have in1 := in2_ok p.1.enter p.2.enter E.enter x1 y1
  have in2 := in2_ok p.1.seated p.2.seated E.seated x2 y2
  have in3 := in2_ok p.1.start p.2.start E.start x3 y3
  have in4 := in2_ok p.1.empty p.2.empty E.empty x4 y4
  have in5 := in2_ok p.1.ready p.2.ready E.ready x5 y5
  cases n2 : decide (0 < E.start - s.bg)
  case' true =>
    have hla := hl4.1 (by have := of_decide_eq_true n2; omega)
    have n3 : (L == -1) = false := by rw [beq_eq_false_iff_ne]; exact hla.1
    have n4 : decide ((i : Int) < L) = false := decide_eq_false (by omega)
  case' false =>
    have n3 : True := trivial
    have n4 : True := trivial
  all_goals
    cases n5 : ((i : Int) == L)
    case' true => have n6 : decide (B < E.start - s.bg) = false := decide_eq_false (by have := hl4.2 (by simpa using n5); omega)
    case' false => have n6 : True := trivial
  all_goals
    try rw [l3] at n3
    simp only [go_sem, Nat.reduceEqDiff, Nat.reduceAdd, Nat.reduceLT, Nat.reduceLeDiff, reduceIte, and_self, decide_true, decide_false, beq_self_eq_true, g1, g7, g9, g10, g12, g13, Ss_len, dec_lt hlt, Ss_idx _ hs, Ms_idx _ hp, Es_idx _ hE, ECells, EEta, MCells, SCells, Nat.zero_add, get_last, set_last, WB19, snA2, hot_agg, WVH_eq in1, WVH_eq in2, WVH_eq in3, WVH_eq in4, WVH_eq in5, true_and, w1, n1, n2, l3, n3, n4, n5, n6, wrap_n1 i (by omega)]
    refine Nx_of (i + 1) (by show l.length - (i + 1) < l.length - i; omega) ?_
    simp only [go_sem, Nat.reduceEqDiff, Nat.reduceAdd, Nat.reduceLT, Nat.reduceLeDiff, reduceIte, and_self, decide_true, decide_false, beq_self_eq_true, g1, g7, g9, g10, g12]
    exact ⟨trivial, trivial, trivial, trivial, trivial, trivial, _, _, rfl⟩
end Go.Ab.T
end
