/-
  A part of the proofs over this seat.
  (The texts KsK17, one behind the other.)
-/
import Derived.Test.YtapkbaihdcabnaaP5
import Derived.Test.YtapkbaihdcabnaaP9
set_option linter.unusedSimpArgs false
set_option linter.unusedVariables false
set_option linter.unusedSectionVars false
section
namespace Go.Ab.T
set_option maxRecDepth 8000
set_option maxHeartbeats 4000000
/-- What the search finds: the first number from which it is so. -/
theorem bs_spec {p : Nat → Bool} (mono : ∀ a b, a ≤ b → p a = true → p b = true) (J : Nat) : ∀ (n i j : Nat), i ≤ j → j - i ≤ n → j ≤ J → (∀ m, m < i → p m = false) → (j < J → p j = true) → (∀ m, m < bs p n i j → p m = false) ∧ (bs p n i j < J → p (bs p n i j) = true)
  | 0, i, j, h1, h2, h3, h4, h5 => by
    have : i = j := by omega
    subst this
    exact ⟨h4, h5⟩
  | n + 1, i, j, h1, h2, h3, h4, h5 => by
    by_cases h : i < j
    · rw [bs_step p n i j h]
      cases hp : p ((i + j) / 2)
      · rw [if_neg (by decide)]
        refine bs_spec mono J n ((i + j) / 2 + 1) j (by omega) (by omega) h3 (fun m hm => ?_) h5
        cases hq : p m
        · rfl
        · have := mono m ((i + j) / 2) (by omega) hq
          rw [hp] at this; cases this
      · rw [if_pos rfl]
        exact bs_spec mono J n i ((i + j) / 2) (by omega) (by omega) (by omega) h4 fun _ => hp
    · rw [bs_end p (n + 1) i j h]
      have : i = j := by omega
      subst this
      exact ⟨h4, h5⟩
theorem shN_spec {tax : Int} (t0 : 0 ≤ tax) (t1 : tax ≤ 500) {c : Ct} (hc : CV c) (w s : Int) : (∀ m : Nat, m < shN tax c w s → (settle tax c w m).sh < s) ∧ (shN tax c w s ≤ 10000000 → s ≤ (settle tax c w (shN tax c w s : Nat)).sh) := by
  have h := bs_spec (p := shP tax c w s) (fun a b hab h => by
    unfold shP at h ⊢
    have := of_decide_eq_true h
    have := share_mono t0 t1 hc w (g := (a : Int)) (g' := (b : Int)) (by omega) (by omega)
    exact decide_eq_true (by omega)) 10000001 10000001 0 10000001 (by omega) (by omega) (by omega) (fun m hm => absurd hm (by omega)) (fun h => absurd h (by omega))
  unfold shN
  generalize bs (shP tax c w s) 10000001 0 10000001 = R at h
  refine ⟨fun m hm => ?_, fun hR => ?_⟩
  · have := of_decide_eq_false (h.1 m hm); omega
  · exact of_decide_eq_true (h.2 (by omega))
theorem acc_audit {b : Bk} {c : Ct} {f w v : Int} (hcf : c.film = f) : acc (withB b ⟨0, 2, f, w, 0, v⟩) c w = settle b.tax c w v := by
  show settle b.tax c w (gross (b.rs ++ [withR b ⟨0, 2, f, w, 0, v⟩]) c.film w) = _
  rw [hcf, gross_audit (withB_lt b _) (withB_isOf b ⟨0, 2, f, w, 0, v⟩) rfl]
  rfl
theorem ShareReach_run (b : Bk) (x : Ak) : RV ft 9 [encB b, encX x] (.bool true) := by
  refine RV_of ft9 rfl ?_
  simp only [c9, r9]
  have hV := valid_ok b x.f x.w x.s
  cases hv : validM b x.f x.w
  case false =>
    rw [hv] at hV
    simp only [go_sem, Nat.reduceEqDiff, Nat.reduceAdd, Nat.reduceLT, Nat.reduceLeDiff, reduceIte, WB20, WVH_eq hV, true_and, WB16, WVH_eq works_ok]
  rw [hv] at hV
  obtain ⟨h1, h0, c, hs, i0, i1⟩ := validM_iff hv
  have hF := farM_NF h1
  have hb := chk_BV h0
  have hc := hb.cv c (findC_mem hs).1
  have hcf := (findC_mem hs).2
  cases c1 : decide ((40 : Int) ≤ (b.rs.length : Int))
  case true => simp only [go_sem, Nat.reduceEqDiff, Nat.reduceAdd, Nat.reduceLT, Nat.reduceLeDiff, reduceIte, WB20, WVH_eq hV, true_and, c1, WB16, WVH_eq works_ok]
  cases c2 : decide (x.s < 0)
  case true => simp only [go_sem, Nat.reduceEqDiff, Nat.reduceAdd, Nat.reduceLT, Nat.reduceLeDiff, reduceIte, WB20, WVH_eq hV, true_and, c1, c2, WB16, WVH_eq works_ok]
  cases c3 : decide ((10000000 : Int) < x.s)
  case true => simp only [go_sem, Nat.reduceEqDiff, Nat.reduceAdd, Nat.reduceLT, Nat.reduceLeDiff, reduceIte, WB20, WVH_eq hV, true_and, c1, c2, c3, WB16, WVH_eq works_ok]
  have hl : b.rs.length < 40 := by have := of_decide_eq_false c1; omega
  have ht : taR x.s = true := inR_iff.2 ⟨by have := of_decide_eq_false c2; omega, by have := of_decide_eq_false c3; omega⟩
  have hQ := Reach_ok b hF x.f x.w x.s
  have hM : reachM b x.f x.w x.s = if 10000000 < shN b.tax c x.w x.s then ((0 : Int), (3 : Int)) else (((shN b.tax c x.w x.s : Nat) : Int), (0 : Int)) := by
    unfold reachM
    rw [if_pos h0, hs]
    dsimp only
    rw [if_pos (inR_iff.2 ⟨i0, i1⟩), if_pos ht]
  rw [hM] at hQ
  have hsp := shN_spec hb.x0 hb.x1 hc x.w x.s
  generalize shN b.tax c x.w x.s = N at hQ hsp
  have z : ((0 : Int) != 0) = false := rfl
  have z1 : ((0 : Int) == 0) = true := rfl
  have z2 : ((3 : Int) != 0) = true := rfl
  have z3 : ((3 : Int) != 3) = false := rfl
  have z4 : ((3 : Int) == 0) = false := rfl
  have hO : ∀ v : Int, RV ft 26 [encB b, .agg [I64 0, I64 2, I64 x.f, I64 x.w, I64 0, I64 v]] (encB (withB b ⟨0, 2, x.f, x.w, 0, v⟩)) := fun v => with_ok b ⟨0, 2, x.f, x.w, 0, v⟩ hb
  have hC : ∀ v : Int, RV ft 15 [encB (withB b ⟨0, 2, x.f, x.w, 0, v⟩)] (I64 (chk (withB b ⟨0, 2, x.f, x.w, 0, v⟩))) := fun v => CheckR_ok _ (withB_NF hF hl _)
  have hX : ∀ v : Int, chk (withB b ⟨0, 2, x.f, x.w, 0, v⟩) = 0 → RV ft 19 [encB (withB b ⟨0, 2, x.f, x.w, 0, v⟩), I64 x.f, I64 x.w] (.tup [encA (settle b.tax c x.w v), I64 0]) := fun v h => by
    have := Week_ok _ (withB_NF hF hl ⟨0, 2, x.f, x.w, 0, v⟩) x.f x.w
    rw [weekM_some h (show findC x.f (withB b ⟨0, 2, x.f, x.w, 0, v⟩).cs = some c from hs) i0 i1, acc_audit hcf] at this
    exact this
  by_cases hN : 10000000 < N
  · rw [if_pos hN] at hQ
    have hO1 := hO 10000000
    have hC1 := hC 10000000
    by_cases h2 : chk (withB b ⟨0, 2, x.f, x.w, 0, 10000000⟩) = 0
    case neg => simp only [go_sem, Nat.reduceEqDiff, Nat.reduceAdd, Nat.reduceLT, Nat.reduceLeDiff, reduceIte, WB20, WVH_eq hV, true_and, c1, c2, c3, WB30, WVH_eq hQ, z2, z3, z4, WB26, WVH_eq hO1, WB15, WVH_eq hC1, ne0 h2, WB16, WVH_eq works_ok]
    rw [h2] at hC1
    have hX1 := hX 10000000 h2
    have hlt : decide (x.s ≤ (settle b.tax c x.w 10000000).sh) = false := decide_eq_false (Int.not_le.2 (hsp.1 10000000 hN))
    generalize settle b.tax c x.w 10000000 = A at hX1 hlt
    simp only [go_sem, Nat.reduceEqDiff, Nat.reduceAdd, Nat.reduceLT, Nat.reduceLeDiff, reduceIte, WB20, WVH_eq hV, true_and, c1, c2, c3, WB30, WVH_eq hQ, z, z2, z3, z4, WB26, WVH_eq hO1, WB15, WVH_eq hC1, WB19, WVH_eq hX1, hlt, WB16, WVH_eq works_ok]
  · rw [if_neg hN] at hQ
    have hO1 := hO (N : Int)
    have hC1 := hC (N : Int)
    have c4 : decide ((10000000 : Int) < (N : Int)) = false := decide_eq_false (by omega)
    by_cases h2 : chk (withB b ⟨0, 2, x.f, x.w, 0, (N : Int)⟩) = 0
    case neg => simp only [go_sem, Nat.reduceEqDiff, Nat.reduceAdd, Nat.reduceLT, Nat.reduceLeDiff, reduceIte, WB20, WVH_eq hV, true_and, c1, c2, c3, WB30, WVH_eq hQ, z, z1, dec_nn, c4, WB26, WVH_eq hO1, WB15, WVH_eq hC1, ne0 h2, WB16, WVH_eq works_ok]
    rw [h2] at hC1
    have hX1 := hX (N : Int) h2
    have hge : decide (x.s ≤ (settle b.tax c x.w (N : Int)).sh) = true := decide_eq_true (hsp.2 (by omega))
    by_cases hN0 : N = 0
    · subst hN0
      have e0 : (((0 : Nat) : Int) == 0) = true := rfl
      generalize settle b.tax c x.w ((0 : Nat) : Int) = A at hX1 hge
      simp only [go_sem, Nat.reduceEqDiff, Nat.reduceAdd, Nat.reduceLT, Nat.reduceLeDiff, reduceIte, WB20, WVH_eq hV, true_and, c1, c2, c3, WB30, WVH_eq hQ, z, z1, dec_nn, c4, WB26, WVH_eq hO1, WB15, WVH_eq hC1, WB19, WVH_eq hX1, hge, e0, WB16, WVH_eq works_ok]
    · have e0 : ((N : Int) == 0) = false := by rw [beq_eq_false_iff_ne]; omega
      have w1 : IntKind.i64.wrap ((N : Int) - 1) = (N : Int) - 1 := wrap_i64 _ (by omega) (by omega)
      have h3 : chk (withB b ⟨0, 2, x.f, x.w, 0, (N : Int) - 1⟩) = 0 := chk_cents h2 (v := (N : Int) - 1) (by omega) (by omega)
      have hO2 := hO ((N : Int) - 1)
      have hX2 := hX ((N : Int) - 1) h3
      have hlt : decide ((settle b.tax c x.w ((N : Int) - 1)).sh < x.s) = true := decide_eq_true (by
        have := hsp.1 (N - 1) (by omega)
        rwa [show ((N - 1 : Nat) : Int) = (N : Int) - 1 by omega] at this)
      generalize settle b.tax c x.w (N : Int) = A at hX1 hge
      generalize settle b.tax c x.w ((N : Int) - 1) = A2 at hX2 hlt
      simp only [go_sem, Nat.reduceEqDiff, Nat.reduceAdd, Nat.reduceLT, Nat.reduceLeDiff, reduceIte, WB20, WVH_eq hV, true_and, c1, c2, c3, WB30, WVH_eq hQ, z, z1, dec_nn, c4, WB26, WVH_eq hO1, WVH_eq hO2, WB15, WVH_eq hC1, WB19, WVH_eq hX1, WVH_eq hX2, hge, e0, w1, hlt, WB16, WVH_eq works_ok]
end Go.Ab.T
end
