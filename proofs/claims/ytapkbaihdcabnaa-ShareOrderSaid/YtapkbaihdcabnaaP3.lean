/-
  A part of the proofs over this seat.
  (The texts KsM2 KsK6 KsK7 KsK8, one behind the other.)
-/
import Derived.Test.YtapkbaihdcabnaaP1
import Derived.Test.YtapkbaihdcabnaaP2
import Derived.Test.YtapkbaihdcabnaaA0
set_option linter.unusedSimpArgs false
set_option linter.unusedVariables false
set_option linter.unusedSectionVars false
section
namespace Go.Ab.T
/-! ### The last reports of tills, in a table -/
def keyOf (r : Rp) : Int := if (r.kind == 2) = true then -1 else r.till
def keyP (f w k : Int) (r : Rp) : Bool := isOf f w r && keyOf r == k
def putR : List (Int × Rp) → Int → Rp → List (Int × Rp)
  | [], n, v => [(n, v)]
  | p :: r, n, v => if n = p.1 then (n, v) :: r else p :: putR r n v
def lookR : List (Int × Rp) → Int → Option Rp
  | [], _ => none
  | p :: r, n => if n = p.1 then some p.2 else lookR r n
theorem look_put : ∀ (l : List (Int × Rp)) (n : Int) (v : Rp) (m : Int), lookR (putR l n v) m = if m = n then some v else lookR l m
  | [], n, v, m => by simp [putR, lookR]
  | p :: r, n, v, m => by
    by_cases h : n = p.1
    · simp only [putR, if_pos h, lookR]
      by_cases hm : m = n
      · simp [hm]
      · rw [if_neg hm, if_neg hm, if_neg (by omega)]
    · simp only [putR, if_neg h, lookR, look_put r n v m]
      by_cases hm : m = n
      · rw [if_pos hm, if_pos hm, if_neg (by omega)]
      · rw [if_neg hm, if_neg hm]
def stepL (f w : Int) (L : List (Int × Rp)) (r : Rp) : List (Int × Rp) := if isOf f w r = true then (match lookR L (keyOf r) with | none => putR L (keyOf r) r | some x => if x.id < r.id then putR L (keyOf r) r else L) else L
def lastF (f w : Int) (l : List Rp) : List (Int × Rp) := l.foldl (stepL f w) []
theorem look_step (f w : Int) (L : List (Int × Rp)) (r : Rp) (k : Int) : lookR (stepL f w L r) k = if keyP f w k r = true then better (lookR L k) r else lookR L k := by
  unfold stepL keyP
  cases isOf f w r
  · simp
  simp only [Bool.true_and, if_true, beq_iff_eq]
  by_cases hk : keyOf r = k
  · subst hk
    rw [if_pos rfl]
    cases h : lookR L (keyOf r) with
    | none => rw [look_put, if_pos rfl]; rfl
    | some x =>
      dsimp only [better]
      split
      · rw [look_put, if_pos rfl]
      · exact h
  · rw [if_neg hk]
    cases h : lookR L (keyOf r) with
    | none => rw [look_put, if_neg (by omega)]
    | some x =>
      dsimp only
      split
      · rw [look_put, if_neg (by omega)]
      · rfl
theorem look_fold (f w k : Int) : ∀ (l : List Rp) (L : List (Int × Rp)), lookR (l.foldl (stepL f w) L) k = pickG (keyP f w k) (lookR L k) l
  | [], _ => rfl
  | r :: l, L => by
    rw [List.foldl_cons, look_fold f w k l, look_step]
    rfl
theorem mem_putR : ∀ {l : List (Int × Rp)} {n : Int} {v : Rp} {p : Int × Rp}, p ∈ putR l n v → p = (n, v) ∨ p ∈ l
  | [], n, v, p, h => by simpa [putR] using h
  | q :: r, n, v, p, h => by
    unfold putR at h
    split at h
    · rcases List.mem_cons.1 h with h | h
      · exact .inl h
      · exact .inr (by simp [h])
    · rcases List.mem_cons.1 h with h | h
      · exact .inr (by simp [h])
      · rcases mem_putR h with h | h
        · exact .inl h
        · exact .inr (by simp [h])
theorem nodup_putR : ∀ {l : List (Int × Rp)} (n : Int) (v : Rp), (l.map (·.1)).Nodup → ((putR l n v).map (·.1)).Nodup
  | [], n, v, h => by simp [putR]
  | q :: r, n, v, h => by
    unfold putR
    rw [List.map_cons, List.nodup_cons] at h
    split
    · rename_i hn
      rw [List.map_cons, List.nodup_cons]
      exact ⟨by rw [hn]; exact h.1, h.2⟩
    · rename_i hn
      rw [List.map_cons, List.nodup_cons]
      refine ⟨fun hm => ?_, nodup_putR n v h.2⟩
      obtain ⟨p, hp, he⟩ := List.mem_map.1 hm
      rcases mem_putR hp with rfl | hp
      · exact hn he
      · exact h.1 (List.mem_map.2 ⟨p, hp, he⟩)
theorem len_putR : ∀ (l : List (Int × Rp)) (n : Int) (v : Rp), (putR l n v).length ≤ l.length + 1
  | [], n, v => by simp [putR]
  | q :: r, n, v => by
    unfold putR
    split
    · simp
    · have := len_putR r n v
      simp; omega
/-- What holds of a table of reports. -/
structure TbR (l : List Rp) (L : List (Int × Rp)) : Prop where
  nd : (L.map (·.1)).Nodup
  mem : ∀ p ∈ L, p.1 = keyOf p.2 ∧ p.2 ∈ l
theorem TbR.step {l : List Rp} {L : List (Int × Rp)} (h : TbR l L) {r : Rp} (hr : r ∈ l) (f w : Int) : TbR l (stepL f w L r) := by
  have hput : TbR l (putR L (keyOf r) r) := ⟨nodup_putR _ _ h.nd, fun p hp => by
    rcases mem_putR hp with rfl | hp
    · exact ⟨rfl, hr⟩
    · exact h.mem p hp⟩
  unfold stepL
  split
  · split
    · exact hput
    · split
      · exact hput
      · exact h
  · exact h
theorem TbR.fold {l : List Rp} (f w : Int) : ∀ (l' : List Rp) {L : List (Int × Rp)}, (∀ r ∈ l', r ∈ l) → TbR l L → TbR l (l'.foldl (stepL f w) L)
  | [], _, _, h => h
  | r :: l', L, hm, h => TbR.fold f w l' (fun r hr => hm r (by simp [hr])) (h.step (hm r (by simp)) f w)
theorem lastF_tb (f w : Int) (l : List Rp) : TbR l (lastF f w l) := TbR.fold f w l (fun _ h => h) ⟨by simp, fun p hp => by simp at hp⟩
theorem pickG_congr {p q : Rp → Bool} : ∀ {l : List Rp} {a : Option Rp}, (∀ r ∈ l, p r = q r) → pickG p a l = pickG q a l
  | [], _, _ => rfl
  | r :: l, a, h => by
    show pickG p (if p r = true then better a r else a) l = pickG q (if q r = true then better a r else a) l
    rw [h r (by simp)]
    exact pickG_congr fun r hr => h r (by simp [hr])
theorem look_aud {l : List Rp} (hl : ∀ r ∈ l, RV' r) (f w : Int) : lookR (lastF f w l) (-1) = pick (audP f w) l := by
  unfold lastF pick
  rw [look_fold]
  refine pickG_congr fun r hr => ?_
  unfold keyP audP keyOf
  cases hk : (r.kind == 2)
  · have h0 := (hl r hr).t0
    have : (r.till == (-1 : Int)) = false := by rw [beq_eq_false_iff_ne]; omega
    simp [this]
  · simp
theorem look_til {l : List Rp} (f w : Int) (t : Nat) : lookR (lastF f w l) t = pick (tilP f w t) l := by
  unfold lastF pick
  rw [look_fold]
  refine pickG_congr fun r hr => ?_
  unfold keyP tilP keyOf
  cases hk : (r.kind == 2)
  · simp
  · have : ((-1 : Int) == (t : Int)) = false := by rw [beq_eq_false_iff_ne]; omega
    simp only [if_true, this, Bool.and_false, Bool.not_true, Bool.false_and]
def csum : List (Int × Rp) → Int
  | [] => 0
  | p :: r => p.2.cents + csum r
theorem sumT_congr {g h : Nat → Int} : ∀ n : Nat, (∀ t, t < n → g t = h t) → sumT g n = sumT h n
  | 0, _ => rfl
  | n + 1, e => by simp only [sumT]; rw [sumT_congr n fun t ht => e t (by omega), e n (by omega)]
theorem sumT_zero : ∀ n : Nat, sumT (fun _ => 0) n = 0
  | 0 => rfl
  | n + 1 => by simp only [sumT, sumT_zero n]; rfl
theorem sumT_one {g : Nat → Int} {k : Nat} {c : Int} (hk : g k = 0) : ∀ n : Nat, sumT (fun t => if t = k then c else g t) n = sumT g n + if k < n then c else 0
  | 0 => by simp [sumT]
  | n + 1 => by
    simp only [sumT, sumT_one hk n]
    by_cases h1 : n = k
    · subst h1; rw [if_pos rfl, if_neg (by omega), if_pos (by omega)]; omega
    · rw [if_neg h1]
      by_cases h2 : k < n
      · rw [if_pos h2, if_pos (by omega)]; omega
      · rw [if_neg h2, if_neg (by omega)]; omega
theorem csum_eq : ∀ (L : List (Int × Rp)), (L.map (·.1)).Nodup → (∀ p ∈ L, 0 ≤ p.1 ∧ p.1 < 10) → csum L = sumT (fun t => match lookR L t with | some r => r.cents | none => 0) 10
  | [], _, _ => (sumT_zero 10).symm
  | p :: L, hn, hk => by
    rw [List.map_cons, List.nodup_cons] at hn
    have ih := csum_eq L hn.2 fun q hq => hk q (by simp [hq])
    have hp := hk p (by simp)
    have hnone : lookR L p.1 = none := by
      have : ∀ (M : List (Int × Rp)) (n : Int), n ∉ M.map (·.1) → lookR M n = none := fun M => by
        induction M with
        | nil => intro n _; rfl
        | cons q M ihM =>
          intro n hn
          simp only [List.map_cons, List.mem_cons, not_or] at hn
          unfold lookR
          rw [if_neg hn.1]; exact ihM n hn.2
      exact this L p.1 hn.1
    have e : sumT (fun t => match lookR (p :: L) t with | some r => r.cents | none => 0) 10 = sumT (fun t => if t = p.1.toNat then p.2.cents else match lookR L t with | some r => r.cents | none => 0) 10 := by
      refine sumT_congr 10 fun t _ => ?_
      rw [show lookR (p :: L) (t : Int) = if (t : Int) = p.1 then some p.2 else lookR L t from rfl]
      by_cases h : t = p.1.toNat
      · rw [if_pos (by omega), if_pos h]
      · rw [if_neg (by omega), if_neg h]
    rw [e, sumT_one (by rw [Int.toNat_of_nonneg hp.1, hnone]), if_pos (by omega), csum, ih]
    omega
theorem gross_tab {l : List Rp} (hl : ∀ r ∈ l, RV' r) (f w : Int) : gross l f w = match lookR (lastF f w l) (-1) with | some r => r.cents | none => csum (lastF f w l) := by
  unfold gross
  rw [look_aud hl]
  cases ha : pick (audP f w) l with
  | some r => rfl
  | none =>
    dsimp only
    have htb := lastF_tb f w l
    rw [csum_eq _ htb.nd fun p hp => ?_]
    · refine sumT_congr 10 fun t _ => ?_
      rw [look_til]; rfl
    · obtain ⟨h1, h2⟩ := htb.mem p hp
      have hv := hl _ h2
      have hne : p.1 ≠ -1 := fun he => by
        have hlk : lookR (lastF f w l) (-1) ≠ none := by
          have : ∀ (M : List (Int × Rp)), p ∈ M → lookR M p.1 ≠ none := fun M => by
            induction M with
            | nil => intro h; cases h
            | cons q M ihM =>
              intro h
              unfold lookR
              split
              · simp
              · rename_i hq
                rcases List.mem_cons.1 h with rfl | h
                · exact absurd rfl hq
                · exact ihM h
          rw [← he]; exact this _ hp
        rw [look_aud hl, ha] at hlk
        exact hlk rfl
      have ht := hv.t0
      have ht1 := hv.t1
      unfold keyOf at h1
      split at h1 <;> omega
theorem csum_bound : ∀ {L : List (Int × Rp)}, (∀ p ∈ L, RV' p.2) → 0 ≤ csum L ∧ csum L ≤ L.length * 10000000
  | [], _ => by simp [csum]
  | p :: L, h => by
    have ih := csum_bound (L := L) fun q hq => h q (by simp [hq])
    have := h p (by simp)
    have h0 := this.c0
    have h1 := this.c1
    simp only [csum, List.length_cons]
    omega
end Go.Ab.T
end

section
namespace Go.Ab.T
set_option maxRecDepth 8000
set_option maxHeartbeats 4000000
def eL (L : List (Int × Rp)) : List (Int × AV) := L.map fun p => (p.1, encR p.2)
theorem ilook_eL (k : Int) : ∀ (L : List (Int × Rp)), ilook (eL L) k = (lookR L k).map encR
  | [] => rfl
  | p :: L => by
    show (if k = p.1 then some (encR p.2) else ilook (eL L) k) = (if k = p.1 then some p.2 else lookR L k).map encR
    rw [ilook_eL k L]
    split <;> rfl
theorem iput_eL (k : Int) (r : Rp) : ∀ (L : List (Int × Rp)), iput (eL L) k (encR r) = eL (putR L k r)
  | [] => rfl
  | p :: L => by
    show (if k = p.1 then (k, encR r) :: eL L else (p.1, encR p.2) :: iput (eL L) k (encR r)) = eL (if k = p.1 then (k, r) :: L else p :: putR L k r)
    rw [iput_eL k r L]
    split <;> rfl
theorem bne_not (a b : Int) : (a != b) = !(a == b) := rfl
theorem lastReports_run (l : List Rp) (f w : Int) (hl : l.length < 1073741824) (K : AV → Mem → Prop) (hK : ∀ bl tk, K (.mp 0) ⟨.mp (im (eL (lastF f w l))) .i :: bl, tk⟩) : WR ft (.f 96) [encRs l, I64 f, I64 w] ⟨[], []⟩ K := by
  rw [WR_f ft96 rfl]
  simp only [c96, r96]
  simp only [go_sem, Nat.reduceEqDiff, Nat.reduceAdd, Nat.reduceLT, Nat.reduceLeDiff, reduceIte]
  refine WL_inv (α := Nat × List Rp × List (Int × Rp)) (fun q e mm => e 1 = I64 f ∧ e 2 = I64 w ∧ e 7 = .mp 0 ∧ e 14 = encRs l ∧ e 15 = I64 l.length ∧ e 16 = I64 q.1 ∧ l.drop q.1 = q.2.1 ∧ q.2.1.foldl (stepL f w) q.2.2 = lastF f w l ∧ ∃ bl tk, mm = ⟨.mp (im (eL q.2.2)) .i :: bl, tk⟩) (fun q => q.2.1.length) (0, l, []) ?_ ?_
  · simp only [go_sem, Nat.reduceEqDiff, Nat.reduceAdd, Nat.reduceLT, Nat.reduceLeDiff, reduceIte]
    ((repeat' apply And.intro) <;> first | trivial | rfl | exact ⟨_, _, rfl⟩ | omega | assumption)
  rintro ⟨k, r, L⟩ e m ⟨g1, g2, g7, g14, g15, g16, hd, hq, bl, tk, rfl⟩
  dsimp only at g16 hd hq
  cases r with
  | nil =>
    have := drop_nil hd
    simp only [go_sem, Nat.reduceEqDiff, Nat.reduceAdd, Nat.reduceLT, Nat.reduceLeDiff, reduceIte, g1, g2, g7, g14, g15, g16, dec_ge this]
    have hq : L = lastF f w l := hq
    rw [hq]
    exact hK _ _
  | cons x r =>
    obtain ⟨hk, hd2, hlt⟩ := drop_cons hd
    rw [List.foldl_cons] at hq
    cases e1 : (x.film == f)
    case false =>
      have hst : stepL f w L x = L := by unfold stepL isOf; rw [e1]; rfl
      simp only [go_sem, Nat.reduceEqDiff, Nat.reduceAdd, Nat.reduceLT, Nat.reduceLeDiff, reduceIte, g1, g2, g7, g14, g15, g16, dec_lt hlt, Rs_idx hk, bne_not, e1, wrap_n1 k (by omega)]
      refine Nx_of (k + 1, r, L) (by simp) ?_
      simp only [go_sem, Nat.reduceEqDiff, Nat.reduceAdd, Nat.reduceLT, Nat.reduceLeDiff, reduceIte, g1, g2, g7, g14, g15]
      exact ⟨trivial, trivial, trivial, trivial, trivial, trivial, hd2, by rw [← hst]; exact hq, _, _, rfl⟩
    cases e2 : (x.week == w)
    case false =>
      have hst : stepL f w L x = L := by unfold stepL isOf; rw [e1, e2]; rfl
      simp only [go_sem, Nat.reduceEqDiff, Nat.reduceAdd, Nat.reduceLT, Nat.reduceLeDiff, reduceIte, g1, g2, g7, g14, g15, g16, dec_lt hlt, Rs_idx hk, bne_not, e1, wrap_n1 k (by omega), e2]
      refine Nx_of (k + 1, r, L) (by simp) ?_
      simp only [go_sem, Nat.reduceEqDiff, Nat.reduceAdd, Nat.reduceLT, Nat.reduceLeDiff, reduceIte, g1, g2, g7, g14, g15]
      exact ⟨trivial, trivial, trivial, trivial, trivial, trivial, hd2, by rw [← hst]; exact hq, _, _, rfl⟩
    have hof : isOf f w x = true := by unfold isOf; rw [e1, e2]; rfl
    cases e3 : (x.kind == 2)
    case false =>
      have hkey : keyOf x = x.till := by unfold keyOf; rw [e3]; rfl
      cases hs : lookR L x.till with
      | none =>
        have hst : stepL f w L x = putR L x.till x := by unfold stepL; rw [hof, hkey, hs]; rfl
        simp only [go_sem, Nat.reduceEqDiff, Nat.reduceAdd, Nat.reduceLT, Nat.reduceLeDiff, reduceIte, g1, g2, g7, g14, g15, g16, dec_lt hlt, Rs_idx hk, bne_not, e1, wrap_n1 k (by omega), e2, e3, mget_im_ok, ilook_eL, hs, Option.getD, Option.isSome, mput_im, iput_eL]
        refine Nx_of (k + 1, r, putR L x.till x) (by simp) ?_
        simp only [go_sem, Nat.reduceEqDiff, Nat.reduceAdd, Nat.reduceLT, Nat.reduceLeDiff, reduceIte, g1, g2, g7, g14, g15]
        exact ⟨trivial, trivial, trivial, trivial, trivial, trivial, hd2, by rw [← hst]; exact hq, _, _, rfl⟩
      | some y =>
        cases e4 : decide (y.id < x.id)
        · have hst : stepL f w L x = L := by unfold stepL; rw [hof, hkey, hs]; dsimp only; rw [if_pos rfl, if_neg (of_decide_eq_false e4)]
          simp only [go_sem, Nat.reduceEqDiff, Nat.reduceAdd, Nat.reduceLT, Nat.reduceLeDiff, reduceIte, g1, g2, g7, g14, g15, g16, dec_lt hlt, Rs_idx hk, bne_not, e1, wrap_n1 k (by omega), e2, e3, mget_im_ok, ilook_eL, hs, Option.getD, Option.isSome, e4]
          refine Nx_of (k + 1, r, L) (by simp) ?_
          simp only [go_sem, Nat.reduceEqDiff, Nat.reduceAdd, Nat.reduceLT, Nat.reduceLeDiff, reduceIte, g1, g2, g7, g14, g15]
          exact ⟨trivial, trivial, trivial, trivial, trivial, trivial, hd2, by rw [← hst]; exact hq, _, _, rfl⟩
        · have hst : stepL f w L x = putR L x.till x := by unfold stepL; rw [hof, hkey, hs]; dsimp only; rw [if_pos rfl, if_pos (of_decide_eq_true e4)]
          simp only [go_sem, Nat.reduceEqDiff, Nat.reduceAdd, Nat.reduceLT, Nat.reduceLeDiff, reduceIte, g1, g2, g7, g14, g15, g16, dec_lt hlt, Rs_idx hk, bne_not, e1, wrap_n1 k (by omega), e2, e3, mget_im_ok, ilook_eL, hs, Option.getD, Option.isSome, e4, mput_im, iput_eL]
          refine Nx_of (k + 1, r, putR L x.till x) (by simp) ?_
          simp only [go_sem, Nat.reduceEqDiff, Nat.reduceAdd, Nat.reduceLT, Nat.reduceLeDiff, reduceIte, g1, g2, g7, g14, g15]
          exact ⟨trivial, trivial, trivial, trivial, trivial, trivial, hd2, by rw [← hst]; exact hq, _, _, rfl⟩
    case true =>
      have hkey : keyOf x = (-1) := by unfold keyOf; rw [e3]; rfl
      cases hs : lookR L (-1) with
      | none =>
        have hst : stepL f w L x = putR L (-1) x := by unfold stepL; rw [hof, hkey, hs]; rfl
        simp only [go_sem, Nat.reduceEqDiff, Nat.reduceAdd, Nat.reduceLT, Nat.reduceLeDiff, reduceIte, g1, g2, g7, g14, g15, g16, dec_lt hlt, Rs_idx hk, bne_not, e1, wrap_n1 k (by omega), e2, e3, mget_im_ok, ilook_eL, hs, Option.getD, Option.isSome, mput_im, iput_eL]
        refine Nx_of (k + 1, r, putR L (-1) x) (by simp) ?_
        simp only [go_sem, Nat.reduceEqDiff, Nat.reduceAdd, Nat.reduceLT, Nat.reduceLeDiff, reduceIte, g1, g2, g7, g14, g15]
        exact ⟨trivial, trivial, trivial, trivial, trivial, trivial, hd2, by rw [← hst]; exact hq, _, _, rfl⟩
      | some y =>
        cases e4 : decide (y.id < x.id)
        · have hst : stepL f w L x = L := by unfold stepL; rw [hof, hkey, hs]; dsimp only; rw [if_pos rfl, if_neg (of_decide_eq_false e4)]
          simp only [go_sem, Nat.reduceEqDiff, Nat.reduceAdd, Nat.reduceLT, Nat.reduceLeDiff, reduceIte, g1, g2, g7, g14, g15, g16, dec_lt hlt, Rs_idx hk, bne_not, e1, wrap_n1 k (by omega), e2, e3, mget_im_ok, ilook_eL, hs, Option.getD, Option.isSome, e4]
          refine Nx_of (k + 1, r, L) (by simp) ?_
          simp only [go_sem, Nat.reduceEqDiff, Nat.reduceAdd, Nat.reduceLT, Nat.reduceLeDiff, reduceIte, g1, g2, g7, g14, g15]
          exact ⟨trivial, trivial, trivial, trivial, trivial, trivial, hd2, by rw [← hst]; exact hq, _, _, rfl⟩
        · have hst : stepL f w L x = putR L (-1) x := by unfold stepL; rw [hof, hkey, hs]; dsimp only; rw [if_pos rfl, if_pos (of_decide_eq_true e4)]
          simp only [go_sem, Nat.reduceEqDiff, Nat.reduceAdd, Nat.reduceLT, Nat.reduceLeDiff, reduceIte, g1, g2, g7, g14, g15, g16, dec_lt hlt, Rs_idx hk, bne_not, e1, wrap_n1 k (by omega), e2, e3, mget_im_ok, ilook_eL, hs, Option.getD, Option.isSome, e4, mput_im, iput_eL]
          refine Nx_of (k + 1, r, putR L (-1) x) (by simp) ?_
          simp only [go_sem, Nat.reduceEqDiff, Nat.reduceAdd, Nat.reduceLT, Nat.reduceLeDiff, reduceIte, g1, g2, g7, g14, g15]
          exact ⟨trivial, trivial, trivial, trivial, trivial, trivial, hd2, by rw [← hst]; exact hq, _, _, rfl⟩
/-- What is in the entries of a table. -/
def cOf (v : AV) : Int := match v with | .agg [_, _, _, _, _, .int _ n] => n | _ => 0
def csumV : List (AV × AV) → Int
  | [] => 0
  | p :: r => cOf p.2 + csumV r
theorem csumV_app : ∀ (a b : List (AV × AV)), csumV (a ++ b) = csumV a + csumV b
  | [], b => by simp [csumV]
  | p :: a, b => by simp only [List.cons_append, csumV, csumV_app a b]; omega
theorem csumV_perm {a b : List (AV × AV)} (h : a.Perm b) : csumV a = csumV b := by
  induction h with
  | nil => rfl
  | cons x _ ih => simp only [csumV, ih]
  | swap x y l => simp only [csumV]; omega
  | trans _ _ ih1 ih2 => rw [ih1, ih2]
theorem csumV_eL : ∀ L : List (Int × Rp), csumV (im (eL L)) = csum L
  | [] => rfl
  | p :: L => by
    show cOf (encR p.2) + csumV (im (eL L)) = p.2.cents + csum L
    rw [csumV_eL L]; rfl
theorem csumV_nn : ∀ {a : List (AV × AV)}, (∀ p ∈ a, 0 ≤ cOf p.2) → 0 ≤ csumV a
  | [], _ => by simp [csumV]
  | p :: a, h => by
    have h1 := h p (by simp)
    have h2 := csumV_nn (a := a) fun q hq => h q (by simp [hq])
    simp only [csumV]; omega
theorem len_lastF (f w : Int) : ∀ (l : List Rp) (L : List (Int × Rp)), (l.foldl (stepL f w) L).length ≤ L.length + l.length
  | [], L => by simp
  | r :: l, L => by
    have h1 := len_lastF f w l (stepL f w L r)
    have h2 : (stepL f w L r).length ≤ L.length + 1 := by
      unfold stepL
      split
      · split
        · exact len_putR _ _ _
        · split
          · exact len_putR _ _ _
          · omega
      · omega
    rw [List.foldl_cons, List.length_cons]; omega
theorem grossOf_ok (l : List Rp) (f w : Int) (hl : l.length < 1000) (hv : ∀ r ∈ l, RV' r) : RV ft 70 [encRs l, I64 f, I64 w] (I64 (gross l f w)) := by
  refine RV_of ft70 rfl ?_
  simp only [c70, r70]
  simp only [go_sem, Nat.reduceEqDiff, Nat.reduceAdd, Nat.reduceLT, Nat.reduceLeDiff, reduceIte, WB96]
  refine lastReports_run l f w (by omega) _ fun bl tk => ?_
  rw [gross_tab hv]
  have htb := lastF_tb f w l
  have hlen := len_lastF f w l []
  cases hs : lookR (lastF f w l) (-1) with
  | some y =>
    simp only [go_sem, Nat.reduceEqDiff, Nat.reduceAdd, Nat.reduceLT, Nat.reduceLeDiff, reduceIte, mget_im_ok, ilook_eL, hs, Option.getD, Option.isSome]
  | none =>
    simp only [go_sem, Nat.reduceEqDiff, Nat.reduceAdd, Nat.reduceLT, Nat.reduceLeDiff, reduceIte, mget_im_ok, ilook_eL, hs, Option.getD, Option.isSome]
    refine W_rngm_fold (im (eL (lastF f w l))) (fun e0 dn t => if t = 10 then I64 (csumV dn) else e0 t) 1 ?_
    simp only [go_sem, Nat.reduceEqDiff, Nat.reduceAdd, Nat.reduceLT, Nat.reduceLeDiff, reduceIte]
    have hvt : ∀ p ∈ lastF f w l, RV' p.2 := fun p hp => hv _ (htb.mem p hp).2
    have hcs := csum_bound hvt
    have hnn : ∀ p ∈ im (eL (lastF f w l)), ∃ r : Rp, p.2 = encR r ∧ 0 ≤ r.cents := fun p hp => by
      simp only [im, eL, List.map_map, List.mem_map] at hp
      obtain ⟨q, hq, rfl⟩ := hp
      exact ⟨q.2, rfl, (hvt q hq).c0⟩
    have hlen2 : (lastF f w l).length ≤ l.length := by have : (lastF f w l).length ≤ ([] : List (Int × Rp)).length + l.length := hlen; simpa using this
    refine ⟨0, .i, rfl, rfl, fun t _ => ?_, ?_, fun π hπ t _ => ?_, ?_⟩
    · show _ = if t = 10 then I64 (csumV []) else _
      split
      · rename_i ht; subst ht; rfl
      · rfl
    · simp only [go_sem, Nat.reduceEqDiff, Nat.reduceAdd, Nat.reduceLT, Nat.reduceLeDiff, reduceIte, csumV_eL]
      rfl
    · dsimp only
      rw [csumV_perm hπ]
    · rintro dn p rest e' junk hp h26 he
      obtain ⟨r, hr, hr0⟩ := hnn p (hp.mem_iff.1 (by simp))
      have h10 : e' 10 = I64 (csumV dn) := he 10 rfl
      have hsum := csumV_perm hp
      rw [csumV_app, csumV_eL] at hsum
      have hd0 : 0 ≤ csumV dn := csumV_nn fun q hq => by
        obtain ⟨r', h1, h2⟩ := hnn q (hp.mem_iff.1 (by simp [hq])); rw [h1]; exact h2
      have hr1 : 0 ≤ csumV rest := csumV_nn fun q hq => by
        obtain ⟨r', h1, h2⟩ := hnn q (hp.mem_iff.1 (by simp [hq])); rw [h1]; exact h2
      have hcp : cOf p.2 = r.cents := by rw [hr]; rfl
      simp only [csumV, hcp] at hsum
      have hw : IntKind.i64.wrap (csumV dn + r.cents) = csumV dn + r.cents := wrap_i64 _ (by omega) (by omega)
      simp only [go_sem, Nat.reduceEqDiff, Nat.reduceAdd, Nat.reduceLT, Nat.reduceLeDiff, reduceIte, hr, h10, hw]
      refine ⟨.inl trivial, h26, fun t ht => ?_, [.live [encR r] 6], rfl, by simp⟩
      have e1 : csumV (dn ++ [p]) = csumV dn + r.cents := by rw [csumV_app]; simp [csumV, hcp]
      by_cases h10' : t = 10
      · subst h10'
        show _ = if 10 = 10 then I64 (csumV (dn ++ [p])) else _
        rw [if_pos rfl, e1]
        rfl
      · have hex := he t ht
        dsimp only at hex
        rw [if_neg h10'] at hex
        refine Eq.trans (b := e' t) ?_ (hex.trans (if_neg h10').symm)
        simp only [List.contains_cons, List.contains_nil, Bool.or_false, Bool.or_eq_false_iff, beq_eq_false_iff_ne, ne_eq] at ht
        simp [ht, h10']
end Go.Ab.T
end

section
namespace Go.Ab.T
set_option maxRecDepth 8000
set_option maxHeartbeats 4000000
/-- A report's place, -1 for none. -/
def IxOK (l : List Rp) (k : Nat) (a : Int) (o : Option Rp) : Prop := (a = -1 ∧ o = none) ∨ ∃ (i : Nat) (x : Rp), a = (i : Int) ∧ i < k ∧ l[i]? = some x ∧ o = some x
theorem IxOK.up {l : List Rp} {k : Nat} {a : Int} {o : Option Rp} (h : IxOK l k a o) : IxOK l (k + 1) a o := by
  rcases h with h | ⟨i, x, h1, h2, h3, h4⟩
  · exact .inl h
  · exact .inr ⟨i, x, h1, by omega, h3, h4⟩
theorem pick_snoc (p : Rp → Bool) (l : List Rp) (x : Rp) : pick p (l ++ [x]) = if p x = true then better (pick p l) x else pick p l := by
  unfold pick pickG; rw [List.foldl_append]; rfl
/-- What is known when some reports are looked at. -/
structure GI (l : List Rp) (f w : Int) (k : Nat) (a : Int) (g : Nat → Int) : Prop where
  aud : IxOK l k a (pick (audP f w) (l.take k))
  til : ∀ t : Nat, t < 10 → IxOK l k (g t) (pick (tilP f w t) (l.take k))
theorem GI.till {l : List Rp} {f w : Int} {k : Nat} {a : Int} {g : Nat → Int} (h : GI l f w k a g) {x : Rp} (hk : l[k]? = some x) (hx : isOf f w x = true) (h2 : (x.kind == 2) = false) {tn : Nat} (ht : x.till = tn) {v : Int}
    (ha : IxOK l (k + 1) v (better (pick (tilP f w tn) (l.take k)) x)) : GI l f w (k + 1) a (fun t => if t = tn then v else g t) := by
  constructor
  · rw [take_snoc hk, pick_snoc, if_neg (by unfold audP; rw [hx, h2]; simp)]; exact h.aud.up
  · intro t htl
    rw [take_snoc hk, pick_snoc]
    by_cases he : t = tn
    · subst he
      rw [if_pos rfl, if_pos (by unfold tilP; rw [hx, h2, ht]; simp)]; exact ha
    · rw [if_neg he, if_neg (by unfold tilP; rw [hx, h2, ht]; simp; omega)]; exact (h.til t htl).up
theorem dec_nn (n : Nat) : decide ((n : Int) < 0) = false := decide_eq_false (by omega)
end Go.Ab.T
end

section
namespace Go.Ab.T
set_option maxRecDepth 8000
set_option maxHeartbeats 4000000
theorem idxInt_ok (l : List Int) (n : Int) (hl : l.length < 1073741824) : RV ft 91 [encIs l, I64 n] (I64 (idxP (fun x => n == x) l 0)) := by
  refine RV_of ft91 rfl ?_
  simp only [c91, r91]
  simp only [go_sem, Nat.reduceEqDiff, Nat.reduceAdd, Nat.reduceLT, Nat.reduceLeDiff, reduceIte]
  refine WL_inv (α := Nat × List Int) (fun q e mm => e 0 = encIs l ∧ e 1 = I64 n ∧ e 7 = I64 l.length ∧ e 8 = I64 q.1 ∧ l.drop q.1 = q.2 ∧ idxP (fun x => n == x) q.2 q.1 = idxP (fun x => n == x) l 0) (fun q => q.2.length) (0, l) ?_ ?_
  · simp only [go_sem, Nat.reduceEqDiff, Nat.reduceAdd, Nat.reduceLT, Nat.reduceLeDiff, reduceIte]
    ((repeat' apply And.intro) <;> first | trivial | rfl | exact ⟨_, _, rfl⟩ | omega | assumption)
  rintro ⟨k, r⟩ e m ⟨h0, h1, h7, h8, hd, hq⟩
  dsimp only at h8 hd hq
  cases r with
  | nil =>
    have h3 := drop_nil hd
    simp only [go_sem, Nat.reduceEqDiff, Nat.reduceAdd, Nat.reduceLT, Nat.reduceLeDiff, reduceIte, h0, h1, h7, h8, dec_ge h3]
    rw [← hq]; rfl
  | cons x r =>
    obtain ⟨hk, hd2, hlt⟩ := drop_cons hd
    cases hx : (n == x)
    · simp only [go_sem, Nat.reduceEqDiff, Nat.reduceAdd, Nat.reduceLT, Nat.reduceLeDiff, reduceIte, h0, h1, h7, h8, dec_lt hlt, Is_idx hk, hx, wrap_n1 k (by omega)]
      refine Nx_of (k + 1, r) (by simp) ?_
      simp only [go_sem, Nat.reduceEqDiff, Nat.reduceAdd, Nat.reduceLT, Nat.reduceLeDiff, reduceIte, h0, h1, h7]
      exact ⟨trivial, trivial, trivial, trivial, hd2, by rw [← hq]; simp [idxP, hx]⟩
    · simp only [go_sem, Nat.reduceEqDiff, Nat.reduceAdd, Nat.reduceLT, Nat.reduceLeDiff, reduceIte, h0, h1, h7, h8, dec_lt hlt, Is_idx hk, hx]
      rw [← hq]; simp [idxP, hx]
def Mx3 (a b c : Int) (k : Nat) (v : Int) : Prop := (k = 1 ∧ v = a) ∨ (k = 2 ∧ v = max a b) ∨ (k = 3 ∧ v = max (max a b) c)
theorem max3_ok (a b c : Int) : RV ft 90 [encIs [a, b, c]] (I64 (max (max a b) c)) := by
  refine RV_of ft90 rfl ?_
  simp only [c90, r90]
  have i0 := fun m => Is_idx (l := [a, b, c]) (k := 0) (x := a) rfl m
  have i1 := fun m => Is_idx (l := [a, b, c]) (k := 1) (x := b) rfl m
  have i2 := fun m => Is_idx (l := [a, b, c]) (k := 2) (x := c) rfl m
  have n0 : ((0 : Nat) : Int) = 0 := rfl
  have n1 : ((1 : Nat) : Int) = 1 := rfl
  have n2 : ((2 : Nat) : Int) = 2 := rfl
  have n3 : ((3 : Nat) : Int) = 3 := rfl
  rw [n0] at i0
  simp only [go_sem, Nat.reduceEqDiff, Nat.reduceAdd, Nat.reduceLT, Nat.reduceLeDiff, reduceIte, List.length_cons, List.length_nil, n3, show decide ((3 : Int) < 1) = false from rfl, i0]
  refine WL_inv (α := Nat × Int) (fun q e mm => e 0 = encIs [a, b, c] ∧ e 3 = I64 q.2 ∧ e 4 = I64 q.1 ∧ Mx3 a b c q.1 q.2) (fun q => 3 - q.1) (1, a) ?_ ?_
  · simp only [go_sem, Nat.reduceEqDiff, Nat.reduceAdd, Nat.reduceLT, Nat.reduceLeDiff, reduceIte]
    exact ⟨trivial, trivial, rfl, .inl ⟨rfl, rfl⟩⟩
  rintro ⟨k, v⟩ e m ⟨g0, g3, g4, hv⟩
  dsimp only at g3 g4 hv
  rcases hv with ⟨rfl, rfl⟩ | ⟨rfl, rfl⟩ | ⟨rfl, rfl⟩
  · simp only [go_sem, Nat.reduceEqDiff, Nat.reduceAdd, Nat.reduceLT, Nat.reduceLeDiff, reduceIte, g0, g3, g4, List.length_cons, List.length_nil, show decide (((1 : Nat) : Int) < ((3 : Nat) : Int)) = true from rfl, i1, wrap_n1 1 (by omega)]
    refine Nx_of (2, max v b) (by simp) ?_
    simp only [go_sem, Nat.reduceEqDiff, Nat.reduceAdd, Nat.reduceLT, Nat.reduceLeDiff, reduceIte, g0]
    exact ⟨trivial, trivial, trivial, .inr (.inl ⟨rfl, rfl⟩)⟩
  · simp only [go_sem, Nat.reduceEqDiff, Nat.reduceAdd, Nat.reduceLT, Nat.reduceLeDiff, reduceIte, g0, g3, g4, List.length_cons, List.length_nil, show decide (((2 : Nat) : Int) < ((3 : Nat) : Int)) = true from rfl, i2, wrap_n1 2 (by omega)]
    refine Nx_of (3, max (max a b) c) (by simp) ?_
    simp only [go_sem, Nat.reduceEqDiff, Nat.reduceAdd, Nat.reduceLT, Nat.reduceLeDiff, reduceIte, g0]
    exact ⟨trivial, trivial, trivial, .inr (.inr ⟨rfl, rfl⟩)⟩
  · simp only [go_sem, Nat.reduceEqDiff, Nat.reduceAdd, Nat.reduceLT, Nat.reduceLeDiff, reduceIte, g0, g3, g4, List.length_cons, List.length_nil, show decide (((3 : Nat) : Int) < ((3 : Nat) : Int)) = false from rfl]
theorem step_get {c : Ct} (h : CV c) (w : Int) (h0 : c.fi ≤ w) : 0 ≤ min (w - c.fi) ((c.st.length : Int) - 1) ∧ c.st[(min (w - c.fi) ((c.st.length : Int) - 1)).toNat]? = some (stepOf c w) := by
  have h1 := h.s0
  have hlt : (min (w - c.fi) ((c.st.length : Int) - 1)).toNat < c.st.length := by omega
  refine ⟨by omega, ?_⟩
  unfold stepOf
  rw [List.getD_eq_getElem?_getD, List.getElem?_eq_getElem hlt]
  rfl
theorem thousandths_ok (c : Ct) (h : CV c) (w n : Int) (h0 : c.fi ≤ w) (h1 : w ≤ c.la) : RV ft 106 [encC c, I64 w, I64 n] (I64 (mille c w n)) := by
  refine RV_of ft106 rfl ?_
  simp only [c106, r106]
  have a0 := h.a0
  have a2 := h.a2
  have s1 := h.s1
  have t1 := h.t1
  obtain ⟨p0, p1⟩ := step_get h w h0
  have w1 : IntKind.i64.wrap (w - c.fi) = w - c.fi := wrap_i64 _ (by omega) (by omega)
  have w2 : IntKind.i64.wrap ((c.st.length : Int) - 1) = (c.st.length : Int) - 1 := wrap_i64 _ (by omega) (by omega)
  simp only [go_sem, Nat.reduceEqDiff, Nat.reduceAdd, Nat.reduceLT, Nat.reduceLeDiff, reduceIte, w1, w2, Is_idxI p0 p1]
  refine WL_inv (α := Nat × List Ti × Int) (fun q e mm => e 2 = I64 n ∧ e 7 = I64 q.2.2 ∧ e 24 = encTs c.ti ∧ e 25 = I64 c.ti.length ∧ e 26 = I64 q.1 ∧ c.ti.drop q.1 = q.2.1 ∧ milG n q.2.2 q.2.1 = mille c w n ∧ ∃ bl tk, mm = ⟨bl, tk⟩) (fun q => q.2.1.length) (0, c.ti, stepOf c w) ?_ ?_
  · simp only [go_sem, Nat.reduceEqDiff, Nat.reduceAdd, Nat.reduceLT, Nat.reduceLeDiff, reduceIte]
    ((repeat' apply And.intro) <;> first | trivial | rfl | exact ⟨_, _, rfl⟩ | omega | assumption)
  rintro ⟨k, r, v⟩ e m ⟨g2, g7, g24, g25, g26, hd, hq, bl, tk, rfl⟩
  dsimp only at g7 g26 hd hq
  cases r with
  | nil =>
    have h3 := drop_nil hd
    simp only [go_sem, Nat.reduceEqDiff, Nat.reduceAdd, Nat.reduceLT, Nat.reduceLeDiff, reduceIte, g2, g7, g24, g25, g26, dec_ge h3]
    rw [← hq]; rfl
  | cons x r =>
    obtain ⟨hk, hd2, hlt⟩ := drop_cons hd
    rw [milG_cons] at hq
    cases hx : decide (x.fr ≤ n)
    · rw [if_neg (of_decide_eq_false hx)] at hq
      simp only [go_sem, Nat.reduceEqDiff, Nat.reduceAdd, Nat.reduceLT, Nat.reduceLeDiff, reduceIte, g2, g7, g24, g25, g26, dec_lt hlt, Ts_idx hk, hx, wrap_n1 k (by omega)]
      refine Nx_of (k + 1, r, v) (by simp) ?_
      simp only [go_sem, Nat.reduceEqDiff, Nat.reduceAdd, Nat.reduceLT, Nat.reduceLeDiff, reduceIte, g2, g7, g24, g25]
      exact ⟨trivial, trivial, trivial, trivial, trivial, hd2, hq, _, _, rfl⟩
    · rw [if_pos (of_decide_eq_true hx)] at hq
      simp only [go_sem, Nat.reduceEqDiff, Nat.reduceAdd, Nat.reduceLT, Nat.reduceLeDiff, reduceIte, g2, g7, g24, g25, g26, dec_lt hlt, Ts_idx hk, hx, wrap_n1 k (by omega)]
      refine Nx_of (k + 1, r, max v x.mi) (by simp) ?_
      simp only [go_sem, Nat.reduceEqDiff, Nat.reduceAdd, Nat.reduceLT, Nat.reduceLeDiff, reduceIte, g2, g24, g25]
      exact ⟨trivial, trivial, trivial, trivial, trivial, hd2, hq, _, _, rfl⟩
def enc3 (a b c : Int) : AV := .agg [I64 a, I64 b, I64 c]
theorem mlr_ok {x m : Int} (h0 : 0 ≤ x) (h1 : x ≤ 1000000000) (m0 : 0 ≤ m) (m1 : m ≤ 1000) : RV ft 88 [I64 x, I64 m] (I64 (mlr x m)) := by
  have := mlr_bound h0 m0 m1
  exact part_ok x m (by omega) (by omega)
theorem sharesOf_ok (c : Ct) (h : CV c) (w n : Int) (h0 : c.fi ≤ w) (h1 : w ≤ c.la) (n0 : 0 ≤ n) (n1 : n ≤ 1000000000) : RV ft 89 [encC c, I64 w, I64 n] (enc3 (sh1 c w n) (sh2 c n) c.fl) := by
  refine RV_of ft89 rfl ?_
  simp only [c89, r89]
  have hm := mille_bound h w n
  have u0 := h.n0
  have u1 := h.n1
  have w1 : IntKind.i64.wrap (n - c.nut) = n - c.nut := wrap_i64 _ (by omega) (by omega)
  have p1 := mlr_ok n0 n1 hm.1 hm.2
  have p2 := mlr_ok (x := max 0 (n - c.nut)) (by omega) (by omega) h.o0 h.o1
  simp only [go_sem, Nat.reduceEqDiff, Nat.reduceAdd, Nat.reduceLT, Nat.reduceLeDiff, reduceIte, WB106, WVH_eq (thousandths_ok c h w n h0 h1), true_and, WB88, WVH_eq p1, w1, WVH_eq p2]
  rfl
theorem account_ok (tax : Int) (t0 : 0 ≤ tax) (t1 : tax ≤ 500) (c : Ct) (h : CV c) (w g : Int) (h0 : c.fi ≤ w) (h1 : w ≤ c.la) (g0 : 0 ≤ g) (g1 : g ≤ 100000000) : RV ft 62 [I64 tax, encC c, I64 w, I64 g] (encA (settle tax c w g)) := by
  refine RV_of ft62 rfl ?_
  simp only [c62, r62]
  have p1 := mlr_ok g0 (by omega) t0 (by omega : tax ≤ 1000)
  have b1 := mlr_bound g0 t0 (by omega : tax ≤ 1000)
  have hn := net_bound t0 t1 g0
  have w1 : IntKind.i64.wrap (g - mlr g tax) = netOf tax g := wrap_i64 _ (by omega) (by omega)
  generalize hN : netOf tax g = n at w1 hn
  have p2 := sharesOf_ok c h w n h0 h1 hn.1 (by omega)
  have s1 := sh1_bound h (w := w) hn.1
  have s2 := sh2_bound h hn.1
  have l0 := h.l0
  have l1 := h.l1
  have hM : max (max (sh1 c w n) (sh2 c n)) c.fl = most c w n := rfl
  have p3 := max3_ok (sh1 c w n) (sh2 c n) c.fl
  rw [hM] at p3
  have hm0 : 0 ≤ most c w n := by unfold most; omega
  have hix : 1 + idxP (fun x => most c w n == x) [sh1 c w n, sh2 c n, c.fl] 0 = ruleOf c w n := by
    unfold ruleOf idxP
    cases q1 : (most c w n == sh1 c w n)
    · unfold idxP
      cases q2 : (most c w n == sh2 c n)
      · unfold idxP
        have q3 : (most c w n == c.fl) = true := by
          rw [beq_eq_false_iff_ne] at q1 q2
          rw [beq_iff_eq]
          unfold most at q1 q2 ⊢; omega
        rw [q3]; rfl
      · rfl
    · rfl
  have hrb : 1 ≤ ruleOf c w n ∧ ruleOf c w n ≤ 3 := by
    unfold ruleOf
    split
    · omega
    · split <;> omega
  have p4 := idxInt_ok [sh1 c w n, sh2 c n, c.fl] (most c w n) (by simp)
  have w2 : IntKind.i64.wrap (1 + idxP (fun x => most c w n == x) [sh1 c w n, sh2 c n, c.fl] 0) = ruleOf c w n := by rw [hix]; exact wrap_i64 _ (by omega) (by omega)
  have w3 : IntKind.i64.wrap (n - min (most c w n) n) = n - min (most c w n) n := wrap_i64 _ (by omega) (by omega)
  have e3 : enc3 (sh1 c w n) (sh2 c n) c.fl = .agg [I64 (sh1 c w n), I64 (sh2 c n), I64 c.fl] := rfl
  have hsl : asliceAt (.pv (.agg [I64 (sh1 c w n), I64 (sh2 c n), I64 c.fl]) 0) none none 3 = some (encIs [sh1 c w n, sh2 c n, c.fl]) := rfl
  simp only [go_sem, Nat.reduceEqDiff, Nat.reduceAdd, Nat.reduceLT, Nat.reduceLeDiff, reduceIte, WB88, WVH_eq p1, true_and, w1, WB89, WVH_eq p2, e3, hsl, WB90, WVH_eq p3, WB91, WVH_eq p4, w2, w3]
  show _ = AV.agg [I64 g, I64 (mlr g tax), I64 (netOf tax g), I64 (min (most c w (netOf tax g)) (netOf tax g)), I64 (netOf tax g - min (most c w (netOf tax g)) (netOf tax g)), I64 (ruleOf c w (netOf tax g))]
  rw [hN]
end Go.Ab.T
end
