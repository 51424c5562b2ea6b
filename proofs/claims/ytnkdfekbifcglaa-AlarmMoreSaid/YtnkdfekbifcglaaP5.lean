/-
  A part of the proofs over this seat.
  (The texts KrM4 KrK7, one behind the other.)
-/
import Derived.Test.YtnkdfekbifcglaaP4
set_option linter.unusedSimpArgs false
set_option linter.unusedVariables false
set_option linter.unusedSectionVars false
section
namespace Go.Ab.T
/-! ### Hours, and their bound -/
structure IsHour (S : SS) (T : Int) (r : Nat) (H : Int) : Prop where
  h0 : 0 ≤ H
  h1 : H ≤ T + 1
  no : ∀ m : Nat, (m : Int) < H → S (ndI T r m) = false
  yes : H ≤ T → S (ndI T r H) = true
def crB (h : Ho) (H : Nat → Int) (i m : Nat) : Bool := decide (H (pq h i).fr.toNat ≤ (m : Int)) && ((pq h i).to == -1 || decide ((m : Int) + (pq h i).wk < H (pq h i).to.toNat))
def bnd (h : Ho) (T : Int) (H : Nat → Int) : Int := sumR h.p.length (fun r => if 0 < H r then pp h r else 0) + sumR h.s.length fun i => sumR (nM T (pq h i)) fun m => if crB h H i m = true then (pq h i).wd else 0
section
variable {h : Ho} {T : Int} {U : US} {val : Int} {S : SS} {H : Nat → Int}
theorem cl_fwd (hC : Cut h T U S) {a : Arc} (ha : a ∈ net h T) (hs : S a.a = true) (hf : U a.key < a.w) : S a.b = true := by
  have := hC.cl a.a hs a ha (.inl rfl) (by unfold Arc.free; rw [if_pos rfl]; omega)
  unfold Arc.to at this
  rwa [if_pos rfl] at this
theorem cl_bwd (hC : Cut h T U S) {a : Arc} (ha : a ∈ net h T) (hne : a.a ≠ a.b) (hs : S a.b = true) (hf : 0 < U a.key) : S a.a = true := by
  have := hC.cl a.b hs a ha (.inr rfl) (by unfold Arc.free; rw [if_neg hne]; omega)
  unfold Arc.to at this
  rwa [if_neg hne] at this
theorem in_S (hV : HV h) (hT : 0 ≤ T) (F : Flow h T U val) (hC : Cut h T U S) (hH : ∀ r, r < h.p.length → IsHour S T r (H r)) {r : Nat} (hr : r < h.p.length) : ∀ m : Nat, (m : Int) ≤ T → H r ≤ m → S (ndI T r m) = true
  | 0, hm, hle => by
    have h1 := hH r hr
    have : H r = 0 := by have := h1.h0; omega
    have h2 := h1.yes (by omega)
    rwa [this] at h2
  | m + 1, hm, hle => by
    have h1 := hH r hr
    by_cases he : H r = (m + 1 : Nat)
    · have h2 := h1.yes (by omega)
      rwa [he] at h2
    · have ih := in_S hV hT F hC hH hr m (by omega) (by omega)
      have hmT : m < T.toNat := by omega
      have hs := F.sy hr hmT
      have hb := nd_bd (h := h) (T := T) (r := r) (m := m) hT (by omega) (by omega) (by omega) (by omega)
      by_cases hlt : U (-1 - (r : Int), (m : Int)) < allP h
      · exact cl_fwd hC (a := stayA h T r m) (stay_mem hr hmT) ih hlt
      · exfalso
        have hv := F.stay_le hV hT hr hmT
        have hv2 := F.val_le hV hT
        have heq := sumR_eq (n := h.p.length) (f := fun r => U (-1 - (r : Int), -1)) (g := pp h) (fun i hi => (F.st hi).2) (by rw [← F.valE hV hT, ← allP_sum]; omega)
        have := hC.non (fun a ha hat => by
          have hao := net_ok hV hT ha
          have haa : a.a = 0 := hat.resolve_right hao.bn
          unfold Arc.free
          rw [if_pos haa]
          rcases mem_net.1 ha with ⟨r', hr', rfl | ⟨m', hm', rfl⟩⟩ | ⟨i, q, m', hq, hm', rfl⟩
          · have := heq r' hr'
            show pp h r' - U (-1 - (r' : Int), -1) = 0
            omega
          · exfalso
            have hb := nd_bd (h := h) (T := T) (r := r') (m := m') hT (by omega) (by omega) (by omega) (by omega)
            have : ndI T r' m' = 0 := haa
            omega
          · exfalso
            have hq' := hV.sv q (List.mem_of_getElem? hq)
            have hmw := nM_lt hq'.k0 hm'
            have hb := nd_bd (h := h) (T := T) (r := q.fr) (m := m') hT hq'.f0 hq'.f1 (by omega) (by have := hq'.k0; omega)
            have : ndI T q.fr m' = 0 := haa
            omega) _ ih
        omega
open Classical in
theorem bnd_eq (hV : HV h) (hT : 0 ≤ T) (F : Flow h T U val) (hC : Cut h T U S) (hH : ∀ r, r < h.p.length → IsHour S T r (H r)) : bnd h T H = val := by
  obtain ⟨φ, hφ⟩ : ∃ φ : Int → Int, φ = fun x => if x = 0 ∨ ∃ r' m' : Nat, r' < h.p.length ∧ H r' ≤ m' ∧ (m' : Int) ≤ T ∧ x = ndI T r' m' then 1 else 0 := ⟨_, rfl⟩
  have p0 : φ 0 = 1 := by rw [hφ]; simp
  have p1 : φ 1 = 0 := by
    rw [hφ]
    dsimp only
    rw [if_neg]
    rintro (h1 | ⟨r', m', h1, h2, h3, h4⟩)
    · omega
    · have hb := nd_bd (h := h) (T := T) (r := r') (m := m') hT (by omega) (by omega) (by omega) (by omega); omega
  have pn : ∀ r' m' : Nat, r' < h.p.length → (m' : Int) ≤ T → φ (ndI T r' m') = if H r' ≤ m' then 1 else 0 := fun r' m' h1 h2 => by
    have hb := nd_bd (h := h) (T := T) (r := r') (m := m') hT (by omega) (by omega) (by omega) h2
    rw [hφ]
    dsimp only
    by_cases hmm : H r' ≤ m'
    · rw [if_pos (.inr ⟨r', m', h1, hmm, h2, rfl⟩), if_pos hmm]
    · rw [if_neg hmm, if_neg]
      rintro (h3 | ⟨r2, m2, h3, h4, h5, h6⟩)
      · omega
      · obtain ⟨e1, e2⟩ := nd_inj hT (by omega) (by omega) (by omega) h2 (by omega) (by omega) h6
        have e1' : r' = r2 := by omega
        have e2' : m' = m2 := by omega
        subst e1' e2'
        exact hmm h4
  have hF := F.phi φ
  rw [Phi_net, p0, p1, Int.sub_zero, Int.mul_one] at hF
  rw [← hF]
  unfold bnd
  congr 1
  · refine sumR_congr fun r hr => ?_
    have hI := hH r hr
    have hz : (sumR T.toNat fun m => U (-1 - (r : Int), (m : Int)) * (φ (ndI T r m) - φ (ndI T r (m + 1)))) = 0 := by
      refine sumR_z fun m hm => ?_
      rw [pn r m hr (by omega), show (m : Int) + 1 = ((m + 1 : Nat) : Int) by omega, pn r (m + 1) hr (by omega)]
      by_cases h1 : H r ≤ m
      · rw [if_pos h1, if_pos (by omega), Int.sub_self, Int.mul_zero]
      · rw [if_neg h1]
        by_cases h2 : H r ≤ (m + 1 : Nat)
        · have hHm : H r = (m + 1 : Nat) := by omega
          have hU : U (-1 - (r : Int), (m : Int)) = 0 := by
            have h3 := (F.sy hr hm).1
            have hb := nd_bd (h := h) (T := T) (r := r) (m := m) hT (by omega) (by omega) (by omega) (by omega)
            have hne : ndI T r m ≠ ndI T r (m + 1) := (stayA_ok hV hT hr hm).ne
            refine Decidable.byContradiction fun hn => ?_
            have hy := hI.yes (by omega)
            rw [hHm] at hy
            have h4 := hI.no m (by omega)
            have h5 : S (ndI T r m) = true := cl_bwd hC (a := stayA h T r m) (stay_mem hr hm) hne hy (show 0 < U (-1 - (r : Int), (m : Int)) by omega)
            rw [h4] at h5; cases h5
          rw [hU, Int.zero_mul]
        · rw [if_neg h2, Int.sub_self, Int.mul_zero]
    rw [hz, Int.add_zero, show (0 : Int) = ((0 : Nat) : Int) from rfl, pn r 0 hr hT]
    by_cases h1 : H r ≤ (0 : Nat)
    · rw [if_pos h1, if_neg (by omega)]; simp
    · rw [if_neg h1, if_pos (by omega)]
      have hU : U (-1 - (r : Int), -1) = pp h r := by
        have h3 := (F.st hr).2
        refine Decidable.byContradiction fun hn => ?_
        have h4 := hI.no 0 (by omega)
        have h5 : S (ndI T r 0) = true := cl_fwd hC (a := startA h T r) (start_mem hr) hC.s0 (show U (-1 - (r : Int), -1) < pp h r by omega)
        have h6 : S (ndI T r 0) = false := h4
        rw [h6] at h5; cases h5
      rw [hU]; simp
  · refine sumR_congr fun i hi => sumR_congr fun m hm => ?_
    have hq := hV.sv _ (pq_mem hi)
    have hmw := nM_lt hq.k0 hm
    have k0 := hq.k0
    have f0 := hq.f0
    have f1 := hq.f1
    have hps := F.ps hi hm
    obtain ⟨fr, hfr⟩ := Int.eq_ofNat_of_zero_le f0
    have hto : φ (ndI T (pq h i).to (m + (pq h i).wk)) = if (pq h i).to = -1 ∨ (m : Int) + (pq h i).wk < H (pq h i).to.toNat then 0 else 1 := by
      by_cases ht : (pq h i).to = -1
      · rw [if_pos (.inl ht), ht, nd_out, p1]
      · obtain ⟨to, hto⟩ := Int.eq_ofNat_of_zero_le (show 0 ≤ (pq h i).to by have := hq.t0; omega)
        obtain ⟨wk, hwk⟩ := Int.eq_ofNat_of_zero_le (show 0 ≤ (pq h i).wk by omega)
        have ht1 := hq.t1
        rw [hto, hwk, Int.toNat_natCast, show (m : Int) + (wk : Int) = ((m + wk : Nat) : Int) by omega, pn to (m + wk) (by omega) (by omega)]
        by_cases hc : H to ≤ (m + wk : Nat)
        · rw [if_pos hc, if_neg (by omega)]
        · rw [if_neg hc, if_pos (by omega)]
    have hfrE : φ (ndI T (pq h i).fr m) = if H (pq h i).fr.toNat ≤ m then 1 else 0 := by rw [hfr, Int.toNat_natCast, pn fr m (by omega) (by omega)]
    have hcr : (crB h H i m = true) ↔ (H (pq h i).fr.toNat ≤ (m : Int) ∧ ((pq h i).to = -1 ∨ (m : Int) + (pq h i).wk < H (pq h i).to.toNat)) := by
      unfold crB; simp
    rw [hto, hfrE]
    have hSf : H (pq h i).fr.toNat ≤ m → S (ndI T (pq h i).fr m) = true := fun hle => by
      have := in_S hV hT F hC hH (r := fr) (by omega) m (by omega) (by rw [hfr, Int.toNat_natCast] at hle; exact hle)
      rw [hfr]; exact this
    have hao := passA_ok hV hT (i := i) (pq_mem hi) hm
    have hne : ndI T (pq h i).fr m ≠ ndI T (pq h i).to (m + (pq h i).wk) := hao.ne
    by_cases c1 : H (pq h i).fr.toNat ≤ (m : Int) <;> by_cases c2 : (pq h i).to = -1 ∨ (m : Int) + (pq h i).wk < H (pq h i).to.toNat
    · rw [if_pos c1, if_pos c2, if_pos (hcr.2 ⟨c1, c2⟩), Int.sub_zero, Int.mul_one]
      refine (Decidable.byContradiction fun hn => ?_ : (pq h i).wd = U ((i : Int), (m : Int)))
      have h5 : S (ndI T (pq h i).to (m + (pq h i).wk)) = true := cl_fwd hC (a := passA T i (pq h i) m) (pass_mem hi hm) (hSf c1) (show U ((i : Int), (m : Int)) < (pq h i).wd by omega)
      rcases c2 with c2 | c2
      · rw [c2, nd_out, hC.s1] at h5; cases h5
      · by_cases ht : (pq h i).to = -1
        · rw [ht, nd_out, hC.s1] at h5; cases h5
        obtain ⟨to, hto'⟩ := Int.eq_ofNat_of_zero_le (show 0 ≤ (pq h i).to by have := hq.t0; omega)
        obtain ⟨wk, hwk⟩ := Int.eq_ofNat_of_zero_le (show 0 ≤ (pq h i).wk by omega)
        have ht1 := hq.t1
        have h6 := (hH to (by omega)).no (m + wk) (by rw [hto', hwk, Int.toNat_natCast] at c2; omega)
        rw [hto', hwk, show (m : Int) + (wk : Int) = ((m + wk : Nat) : Int) by omega, h6] at h5
        cases h5
    · rw [if_pos c1, if_neg c2, if_neg (fun h => c2 (hcr.1 h).2), Int.sub_self, Int.mul_zero]
    · rw [if_neg c1, if_pos c2, if_neg (fun h => c1 (hcr.1 h).1), Int.sub_self, Int.mul_zero]
    · rw [if_neg c1, if_neg c2, if_neg (fun h => c1 (hcr.1 h).1)]
      have hU : U ((i : Int), (m : Int)) = 0 := by
        refine Decidable.byContradiction fun hn => ?_
        have ht : ¬(pq h i).to = -1 := fun e => c2 (.inl e)
        have c3 : ¬(m : Int) + (pq h i).wk < H (pq h i).to.toNat := fun e => c2 (.inr e)
        obtain ⟨to, hto'⟩ := Int.eq_ofNat_of_zero_le (show 0 ≤ (pq h i).to by have := hq.t0; omega)
        obtain ⟨wk, hwk⟩ := Int.eq_ofNat_of_zero_le (show 0 ≤ (pq h i).wk by omega)
        have ht1 := hq.t1
        have hSt : S (ndI T (pq h i).to (m + (pq h i).wk)) = true := by
          have := in_S hV hT F hC hH (r := to) (by omega) (m + wk) (by omega) (by rw [hto', hwk, Int.toNat_natCast] at c3; omega)
          rw [hto', hwk, show (m : Int) + (wk : Int) = ((m + wk : Nat) : Int) by omega]; exact this
        have h5 : S (ndI T (pq h i).fr m) = true := cl_bwd hC (a := passA T i (pq h i) m) (pass_mem hi hm) hne hSt (show 0 < U ((i : Int), (m : Int)) by omega)
        have h6 := (hH fr (by omega)).no m (by rw [hfr, Int.toNat_natCast] at c1; omega)
        rw [hfr, h6] at h5; cases h5
      rw [hU, Int.zero_mul]
end
end Go.Ab.T
end

section
namespace Go.Ab.T
set_option maxRecDepth 8000
set_option maxHeartbeats 1000000
theorem apart_tt : apart (.tup []) (.tup []) = true := rfl
attribute [go_sem] apart_tt
theorem sumR_bd {n : Nat} {f : Nat → Int} {c : Int} (h : ∀ i, i < n → 0 ≤ f i ∧ f i ≤ c) : 0 ≤ sumR n f ∧ sumR n f ≤ n * c := by
  induction n with
  | zero => simp [sumR]
  | succ n ih =>
    have h1 := ih fun i hi => h i (by omega)
    have h2 := h n (by omega)
    simp only [sumR]
    have : ((n + 1 : Nat) : Int) * c = n * c + c := by push_cast; rw [Int.add_mul, Int.one_mul]
    omega
def outV (h : Ho) (T : Int) (U : US) : Int := sumR h.s.length fun i => if (pq h i).to = -1 then sumR T.toNat fun m => U ((i : Int), (m : Int)) else 0
theorem out_W {h : Ho} (hs : h.s.length ≤ 12) {T : Int} (hT0 : 0 ≤ T) (hT : T ≤ 60) {um : Nat} {w : UM} (hw : Srt w) (hb : ∀ i m : Nat, i < h.s.length → 0 ≤ lk w ((i : Int), (m : Int)) ∧ lk w ((i : Int), (m : Int)) ≤ 1000) {bl : List Blk} {tk : List (Nat × Nat)} (hum : bl[um]? = some (.mp (encU w) (.n 2))) {K : AV → Mem → Prop}
    (hK : ∀ j, K (I64 (outV h T (lk w))) ⟨bl ++ j, tk⟩) : WR ft (.f 43) [timV h T um] ⟨bl, tk⟩ K := by
  rw [WR_f ft43 rfl]
  simp only [c43, r43]
  have hTs : (timV h T um).solids = true := rfl
  have gB : ∀ j : List Blk, (bl ++ [Blk.live [timV h T um] 4] ++ j)[bl.length]? = some (.live [timV h T um] 4) := fun j => by simp
  have gB0 : (bl ++ [Blk.live [timV h T um] 4])[bl.length]? = some (.live [timV h T um] 4) := by simp
  have gU : ∀ j : List Blk, (bl ++ [Blk.live [timV h T um] 4] ++ j)[um]? = some (.mp (encU w) (.n 2)) := fun j => getA (getA hum _) _
  simp only [go_sem, Nat.reduceEqDiff, Nat.reduceAdd, Nat.reduceLT, Nat.reduceLeDiff, reduceIte, hTs, gB0]
  obtain ⟨g, hg⟩ : ∃ g : Nat → Int, g = fun i => if (pq h i).to = -1 then sumR T.toNat fun m => lk w ((i : Int), (m : Int)) else 0 := ⟨_, rfl⟩
  have hgb : ∀ i, i < h.s.length → 0 ≤ g i ∧ g i ≤ 60000 := fun i hi => by
    rw [hg]; dsimp only
    split
    · have := sumR_bd (n := T.toNat) (f := fun m => lk w ((i : Int), (m : Int))) (c := 1000) fun m hm => hb i m hi
      omega
    · omega
  refine WL_inv (α := Nat × List Blk) (fun q e mm => e 1 = .ptr bl.length 0 0 ∧ e 3 = I64 (sumR q.1 g) ∧ e 9 = encPs h.s ∧ e 10 = I64 h.s.length ∧ e 11 = I64 q.1 ∧ q.1 ≤ h.s.length ∧ mm = ⟨bl ++ [.live [timV h T um] 4] ++ q.2, tk⟩) (fun q => h.s.length - q.1) (0, []) ?_ ?_
  · simp only [go_sem, Nat.reduceEqDiff, Nat.reduceAdd, Nat.reduceLT, Nat.reduceLeDiff, reduceIte]
    ((repeat' apply And.intro) <;> first | trivial | rfl | assumption | omega | (simp))
  rintro ⟨i, j⟩ e mm ⟨g1, g3, g9, g10, g11, hi, rfl⟩
  dsimp only at g3 g11 hi
  by_cases hlt : i < h.s.length
  · have hc := pq_get hlt
    obtain ⟨c, hcc⟩ : ∃ c, c = pq h i := ⟨_, rfl⟩
    rw [← hcc] at hc
    have gJ : ∀ y : Blk, (bl ++ [Blk.live [timV h T um] 4] ++ j ++ [y])[(bl ++ [Blk.live [timV h T um] 4] ++ j).length]? = some y := fun y => by simp
    have sJ : ∀ y z : Blk, (bl ++ [Blk.live [timV h T um] 4] ++ j ++ [y]).set (bl ++ [Blk.live [timV h T um] 4] ++ j).length z = bl ++ [Blk.live [timV h T um] 4] ++ j ++ [z] := fun y z => by simp
    have gB2 : ∀ y : Blk, (bl ++ [Blk.live [timV h T um] 4] ++ j ++ [y])[bl.length]? = some (.live [timV h T um] 4) := fun y => getA (gB j) _
    have gU2 : ∀ y : Blk, (bl ++ [Blk.live [timV h T um] 4] ++ j ++ [y])[um]? = some (.mp (encU w) (.n 2)) := fun y => getA (gU j) _
    have hPs : (encP c).solids = true := rfl
    have hs0 := sumR_bd (n := i) (f := g) (c := 60000) fun x hx => hgb x (by omega)
    simp only [go_sem, Nat.reduceEqDiff, Nat.reduceAdd, Nat.reduceLT, Nat.reduceLeDiff, reduceIte, g1, g3, g9, g10, g11, dec_lt hlt, Ps_idx hc, gJ, sJ, gB2, PEta, hPs]
    obtain ⟨P0, hP0⟩ : ∃ P0, P0 = sumR i g := ⟨_, rfl⟩
    obtain ⟨g2, hg2⟩ : ∃ g2 : Nat → Int, g2 = fun m : Nat => if c.to = -1 then lk w ((i : Int), (m : Int)) else 0 := ⟨_, rfl⟩
    have hg2b : ∀ m, 0 ≤ g2 m ∧ g2 m ≤ 1000 := fun m => by
      rw [hg2]; dsimp only
      split
      · exact hb i m hlt
      · omega
    rw [← hP0] at hs0
    refine WL_inv (α := Nat) (fun m e mm => e 1 = .ptr bl.length 0 0 ∧ e 3 = I64 (P0 + sumR m g2) ∧ e 4 = I64 i ∧ e 5 = .ptr (bl ++ [Blk.live [timV h T um] 4] ++ j).length 0 0 ∧ e 9 = encPs h.s ∧ e 10 = I64 h.s.length ∧ e 11 = I64 i ∧ e 17 = I64 T ∧ e 18 = I64 m ∧ m ≤ T.toNat ∧ mm = ⟨bl ++ [.live [timV h T um] 4] ++ j ++ [Blk.live [encP c] 4], tk⟩) (fun m => T.toNat - m) 0 ?_ ?_
    · simp only [go_sem, Nat.reduceEqDiff, Nat.reduceAdd, Nat.reduceLT, Nat.reduceLeDiff, reduceIte, g1, g3, g9, g10, g11]
      ((repeat' apply And.intro) <;> first | trivial | rfl | assumption | omega | ((rw [hP0]; simp [sumR])) | (exact Nat.zero_le _))
    rintro m e mm ⟨g1, g3, g4, g5, g9, g10, g11, g17, g18, hm, rfl⟩
    by_cases hmt : m < T.toNat
    · have dm : decide ((m : Int) < T) = true := decide_eq_true (by omega)
      have hb2 := sumR_bd (n := m) (f := g2) (c := 1000) fun x _ => hg2b x
      have hb3 := hb i m hlt
      have hmg := mgetU hw ((i : Int), (m : Int))
      have hsm : sumR (m + 1) g2 = sumR m g2 + g2 m := rfl
      cases ht : (c.to == -1)
      · have h2 : g2 m = 0 := by rw [hg2]; dsimp only; rw [if_neg (by simpa using ht)]
        simp only [go_sem, Nat.reduceEqDiff, Nat.reduceAdd, Nat.reduceLT, Nat.reduceLeDiff, reduceIte, g1, g3, g4, g5, g9, g10, g11, g17, g18, dm, gJ, ht, wrap_n1 m (by omega)]
        refine Nx_of (m + 1) (by show T.toNat - (m + 1) < T.toNat - m; omega) ?_
        simp only [go_sem, Nat.reduceEqDiff, Nat.reduceAdd, Nat.reduceLT, Nat.reduceLeDiff, reduceIte, g1, g3, g4, g5, g9, g10, g11, g17]
        rw [hsm, h2, Int.add_zero]
        ((repeat' apply And.intro) <;> first | trivial | rfl | assumption | omega | (exact hmt))
      · have h2 : g2 m = lk w ((i : Int), (m : Int)) := by rw [hg2]; dsimp only; rw [if_pos (by simpa using ht)]
        have wr := wrap_i64 (P0 + sumR m g2 + lk w ((i : Int), (m : Int))) (by omega) (by omega)
        simp only [go_sem, Nat.reduceEqDiff, Nat.reduceAdd, Nat.reduceLT, Nat.reduceLeDiff, reduceIte, g1, g3, g4, g5, g9, g10, g11, g17, g18, dm, gJ, gB2, gU2, ht, KEta, sameN2, isKeyU, hmg, wr, wrap_n1 m (by omega)]
        refine Nx_of (m + 1) (by show T.toNat - (m + 1) < T.toNat - m; omega) ?_
        simp only [go_sem, Nat.reduceEqDiff, Nat.reduceAdd, Nat.reduceLT, Nat.reduceLeDiff, reduceIte, g1, g4, g5, g9, g10, g11, g17]
        rw [hsm, h2]
        ((repeat' apply And.intro) <;> first | trivial | rfl | assumption | omega | ((rw [Int.add_assoc])) | (exact hmt))
    · have dm : decide ((m : Int) < T) = false := decide_eq_false (by omega)
      have hme : m = T.toNat := by omega
      subst hme
      have hgi : P0 + sumR T.toNat g2 = sumR (i + 1) g := by
        rw [hP0]
        show _ = sumR i g + g i
        rw [hg2, hg]
        dsimp only
        rw [← hcc]
        by_cases ht : c.to = -1
        · simp only [ht, if_true]
        · simp only [ht, if_false, sumR_zero]
      simp only [go_sem, Nat.reduceEqDiff, Nat.reduceAdd, Nat.reduceLT, Nat.reduceLeDiff, reduceIte, g1, g3, g4, g5, g9, g10, g11, g17, g18, dm, hgi, wrap_n1 i (by omega)]
      refine Nx_of (i + 1, j ++ [Blk.live [encP c] 4]) (by show h.s.length - (i + 1) < h.s.length - i; omega) ?_
      simp only [go_sem, Nat.reduceEqDiff, Nat.reduceAdd, Nat.reduceLT, Nat.reduceLeDiff, reduceIte, g1, g3, hgi, g9, g10]
      ((repeat' apply And.intro) <;> first | trivial | rfl | assumption | omega | (exact hlt) | (simp))
  · have hie : i = h.s.length := by omega
    subst hie
    simp only [go_sem, Nat.reduceEqDiff, Nat.reduceAdd, Nat.reduceLT, Nat.reduceLeDiff, reduceIte, g1, g3, g9, g10, g11, dec_ge (Nat.le_refl h.s.length)]
    have := hK ([Blk.live [timV h T um] 4] ++ j)
    unfold outV at this
    rw [hg, List.append_assoc]
    exact this
/-- A slice that is built by appending alone, behind any tokens. -/
def AccT (tk : List (Nat × Nat)) (T : Nat) (es : List AV) (v : AV) (tk' : List (Nat × Nat)) : Prop := (es = [] ∧ v = .sl [] .tight ∧ tk' = tk) ∨ (es ≠ [] ∧ v = .sl es (.at tk.length) ∧ tk' = tk ++ [(es.length, T)])
theorem AccT_nil (tk : List (Nat × Nat)) (T : Nat) : AccT tk T [] (.sl [] .tight) tk := .inl ⟨rfl, rfl, rfl⟩
theorem AccT.app {tk : List (Nat × Nat)} {T : Nat} {es : List AV} {v : AV} {tk' : List (Nat × Nat)} (h : AccT tk T es v tk') {y : AV} {sz by' : Nat} (hs : ∀ e ∈ es, e.cells.length = sz) (hy : y.cells.length = sz) (hl : (es.length + 1) * (by' + 1) ≤ limit) (t0 : Tk) :
    ∃ v' tk2, (∀ bl, appendAt ⟨bl, tk'⟩ false v (.sl [y] t0) T sz by' = some (v', ⟨bl, tk2⟩)) ∧ AccT tk T (es ++ [y]) v' tk2 := by
  have h1 : hdSz [y] sz = true := by simp [hdSz, hy]
  have h2 : hdSz es sz = true := by
    cases es with
    | nil => rfl
    | cons e r => simp [hdSz, hs e (by simp)]
  rcases h with ⟨rfl, rfl, rfl⟩ | ⟨hne, rfl, rfl⟩
  · refine ⟨.sl [y] (.at tk'.length), tk' ++ [(1, T)], fun bl => ?_, .inr ⟨by simp, rfl, by simp⟩⟩
    simp only [appendAt, Mem.elems, h1, if_neg (show ¬true = false by simp)]
    rw [if_pos ⟨by simpa using hl, h2⟩]
    simp [appTk]
  · refine ⟨.sl (es ++ [y]) (.at tk.length), tk ++ [(es.length + 1, T)], fun bl => ?_, .inr ⟨by simp, rfl, by simp⟩⟩
    have h3 : es.length ≠ 0 := by simpa using hne
    simp only [appendAt, Mem.elems, h1, if_neg (show ¬true = false by simp)]
    rw [if_pos ⟨by simpa using hl, h2⟩]
    simp [appTk, h3]
theorem AccT.sl {tk : List (Nat × Nat)} {T : Nat} {es : List AV} {v : AV} {tk' : List (Nat × Nat)} (h : AccT tk T es v tk') : ∃ t, v = .sl es t := by
  rcases h with ⟨rfl, rfl, _⟩ | ⟨_, rfl, _⟩ <;> exact ⟨_, rfl⟩
structure Mv where
  mi : Int
  pa : Int
  pe : Int
def encM (x : Mv) : AV := .agg [I64 x.mi, I64 x.pa, I64 x.pe]
theorem MCells (x : Mv) : (encM x).cells = [I64 x.mi, I64 x.pa, I64 x.pe] := rfl
theorem MEta (a b c : Int) : AV.agg [I64 a, I64 b, I64 c] = encM ⟨a, b, c⟩ := rfl
def mvO (U : US) (m i : Nat) : List Mv := if 0 < U ((i : Int), (m : Int)) then [⟨m, i, U ((i : Int), (m : Int))⟩] else []
def mvR (U : US) (m k : Nat) : List Mv := (List.range k).flatMap (mvO U m)
def planL (U : US) (T k : Nat) : List Mv := (List.range T).flatMap fun m => mvR U m k
theorem mvR_succ (U : US) (m k : Nat) : mvR U m (k + 1) = mvR U m k ++ mvO U m k := by unfold mvR; rw [range_snoc, List.flatMap_append]; simp
theorem planL_succ (U : US) (T k : Nat) : planL U (T + 1) k = planL U T k ++ mvR U T k := by unfold planL; rw [range_snoc, List.flatMap_append]; simp
theorem mvR_len (U : US) (m : Nat) : ∀ k, (mvR U m k).length ≤ k
  | 0 => by simp [mvR]
  | k + 1 => by
    rw [mvR_succ, List.length_append]
    have := mvR_len U m k
    have : (mvO U m k).length ≤ 1 := by unfold mvO; split <;> simp
    omega
theorem planL_len (U : US) (k : Nat) : ∀ T, (planL U T k).length ≤ T * k
  | 0 => by simp [planL]
  | T + 1 => by
    rw [planL_succ, List.length_append]
    have := planL_len U k T
    have := mvR_len U T k
    have : (T + 1) * k = T * k + k := by rw [Nat.add_mul, Nat.one_mul]
    omega
theorem moves_W {h : Ho} (hs : h.s.length ≤ 12) {T : Int} (hT0 : 0 ≤ T) (hT : T ≤ 60) {um : Nat} {w : UM} (hw : Srt w) {bl : List Blk} {tk : List (Nat × Nat)} (hum : bl[um]? = some (.mp (encU w) (.n 2))) {K : AV → Mem → Prop}
    (hK : ∀ j t tk', K (.sl ((planL (lk w) T.toNat h.s.length).map encM) t) ⟨bl ++ j, tk'⟩) : WR ft (.f 48) [timV h T um] ⟨bl, tk⟩ K := by
  rw [WR_f ft48 rfl]
  simp only [c48, r48]
  have hTs : (timV h T um).solids = true := rfl
  have gB0 : (bl ++ [Blk.live [timV h T um] 4])[bl.length]? = some (.live [timV h T um] 4) := by simp
  have gU0 : (bl ++ [Blk.live [timV h T um] 4])[um]? = some (.mp (encU w) (.n 2)) := getA hum _
  simp only [go_sem, Nat.reduceEqDiff, Nat.reduceAdd, Nat.reduceLT, Nat.reduceLeDiff, reduceIte, hTs, gB0]
  obtain ⟨B, hB⟩ : ∃ B, B = bl ++ [Blk.live [timV h T um] 4] := ⟨_, rfl⟩
  rw [← hB] at gB0 gU0
  have hlim : ∀ m i, m ≤ 60 → i ≤ 12 → (((planL (lk w) m h.s.length ++ mvR (lk w) m i).map encM).length + 1) * (24 + 1) ≤ limit := fun m i hm hi => by
    have h1 := planL_len (lk w) h.s.length m
    have h2 := mvR_len (lk w) m i
    have h3 : m * h.s.length ≤ 60 * 12 := Nat.mul_le_mul hm hs
    rw [List.length_map, List.length_append]; unfold limit; omega
  refine WL_inv (α := Nat × AV × List (Nat × Nat)) (fun q e mm => e 1 = .ptr bl.length 0 0 ∧ e 3 = q.2.1 ∧ e 8 = I64 T ∧ e 9 = I64 q.1 ∧ q.1 ≤ T.toNat ∧ AccT tk 35 ((planL (lk w) q.1 h.s.length).map encM) q.2.1 q.2.2 ∧ mm = ⟨B, q.2.2⟩) (fun q => T.toNat - q.1) (0, .sl [] .tight, tk) ?_ ?_
  · simp only [go_sem, Nat.reduceEqDiff, Nat.reduceAdd, Nat.reduceLT, Nat.reduceLeDiff, reduceIte]
    ((repeat' apply And.intro) <;> first | trivial | rfl | assumption | omega | (exact AccT_nil _ _) | (exact Nat.zero_le _) | (rw [hB]))
  rintro ⟨m, v, tk1⟩ e mm ⟨g1, g3, g8, g9, hm, hA, rfl⟩
  dsimp only at g3 g9 hm hA
  by_cases hmt : m < T.toNat
  · have dm : decide ((m : Int) < T) = true := decide_eq_true (by omega)
    simp only [go_sem, Nat.reduceEqDiff, Nat.reduceAdd, Nat.reduceLT, Nat.reduceLeDiff, reduceIte, g1, g3, g8, g9, dm, gB0]
    refine WL_inv (α := Nat × AV × List (Nat × Nat)) (fun q e mm => e 1 = .ptr bl.length 0 0 ∧ e 3 = q.2.1 ∧ e 4 = I64 m ∧ e 8 = I64 T ∧ e 9 = I64 m ∧ e 15 = I64 h.s.length ∧ e 16 = I64 q.1 ∧ q.1 ≤ h.s.length ∧ AccT tk 35 ((planL (lk w) m h.s.length ++ mvR (lk w) m q.1).map encM) q.2.1 q.2.2 ∧ mm = ⟨B, q.2.2⟩) (fun q => h.s.length - q.1) (0, v, tk1) ?_ ?_
    · simp only [go_sem, Nat.reduceEqDiff, Nat.reduceAdd, Nat.reduceLT, Nat.reduceLeDiff, reduceIte, g1, g3, g8, g9]
      have : planL (lk w) m h.s.length ++ mvR (lk w) m 0 = planL (lk w) m h.s.length := by simp [mvR]
      rw [this]
      ((repeat' apply And.intro) <;> first | trivial | rfl | assumption | omega | (exact hA) | (exact Nat.zero_le _))
    rintro ⟨i, v2, tk2⟩ e mm ⟨g1, g3, g4, g8, g9, g15, g16, hi, hA2, rfl⟩
    dsimp only at g3 g16 hi hA2
    by_cases hlt : i < h.s.length
    · have hmg := mgetU hw ((i : Int), (m : Int))
      cases hp : decide (0 < lk w ((i : Int), (m : Int)))
      · have hO : mvO (lk w) m i = [] := by unfold mvO; rw [if_neg (of_decide_eq_false hp)]
        simp only [go_sem, Nat.reduceEqDiff, Nat.reduceAdd, Nat.reduceLT, Nat.reduceLeDiff, reduceIte, g1, g3, g4, g8, g9, g15, g16, dec_lt hlt, gB0, gU0, KEta, sameN2, isKeyU, hmg, hp, wrap_n1 i (by omega)]
        refine Nx_of (i + 1, v2, tk2) (by show h.s.length - (i + 1) < h.s.length - i; omega) ?_
        simp only [go_sem, Nat.reduceEqDiff, Nat.reduceAdd, Nat.reduceLT, Nat.reduceLeDiff, reduceIte, g1, g3, g4, g8, g9, g15]
        rw [mvR_succ, hO, List.append_nil]
        ((repeat' apply And.intro) <;> first | trivial | rfl | assumption | omega | (exact hA2) | (exact hlt))
      · have hO : mvO (lk w) m i = [⟨m, i, lk w ((i : Int), (m : Int))⟩] := by unfold mvO; rw [if_pos (of_decide_eq_true hp)]
        obtain ⟨v3, tk3, a1, a2⟩ := hA2.app (y := encM ⟨m, i, lk w ((i : Int), (m : Int))⟩) (sz := 3) (by' := 24) (fun e he => by obtain ⟨x, _, rfl⟩ := List.mem_map.1 he; rfl) rfl (hlim m i (by omega) (by omega)) .tight
        have hEx : (encM ⟨m, i, lk w ((i : Int), (m : Int))⟩).solids = true := rfl
        have a1B := a1 B
        simp only [go_sem, Nat.reduceEqDiff, Nat.reduceAdd, Nat.reduceLT, Nat.reduceLeDiff, reduceIte, g1, g3, g4, g8, g9, g15, g16, dec_lt hlt, gB0, gU0, KEta, sameN2, isKeyU, hmg, hp, MEta, MCells, hEx, a1B, wrap_n1 i (by omega)]
        refine Nx_of (i + 1, v3, tk3) (by show h.s.length - (i + 1) < h.s.length - i; omega) ?_
        simp only [go_sem, Nat.reduceEqDiff, Nat.reduceAdd, Nat.reduceLT, Nat.reduceLeDiff, reduceIte, g1, g4, g8, g9, g15]
        have he : (planL (lk w) m h.s.length ++ mvR (lk w) m (i + 1)).map encM = (planL (lk w) m h.s.length ++ mvR (lk w) m i).map encM ++ [encM ⟨m, i, lk w ((i : Int), (m : Int))⟩] := by
          rw [mvR_succ, hO, ← List.append_assoc, List.map_append]; rfl
        rw [he]
        ((repeat' apply And.intro) <;> first | trivial | rfl | assumption | omega | (exact a2) | (exact hlt))
    · have hie : i = h.s.length := by omega
      subst hie
      rw [← planL_succ] at hA2
      simp only [go_sem, Nat.reduceEqDiff, Nat.reduceAdd, Nat.reduceLT, Nat.reduceLeDiff, reduceIte, g1, g3, g4, g8, g9, g15, g16, dec_ge (Nat.le_refl h.s.length), wrap_n1 m (by omega)]
      refine Nx_of (m + 1, v2, tk2) (by show T.toNat - (m + 1) < T.toNat - m; omega) ?_
      simp only [go_sem, Nat.reduceEqDiff, Nat.reduceAdd, Nat.reduceLT, Nat.reduceLeDiff, reduceIte, g1, g3, g8]
      ((repeat' apply And.intro) <;> first | trivial | rfl | assumption | omega | (exact hA2) | (exact hmt))
  · have dm : decide ((m : Int) < T) = false := decide_eq_false (by omega)
    have hme : m = T.toNat := by omega
    subst hme
    obtain ⟨t, rfl⟩ := hA.sl
    simp only [go_sem, Nat.reduceEqDiff, Nat.reduceAdd, Nat.reduceLT, Nat.reduceLeDiff, reduceIte, g1, g3, g8, g9, dm]
    rw [hB]
    exact hK _ _ _
end Go.Ab.T
end
