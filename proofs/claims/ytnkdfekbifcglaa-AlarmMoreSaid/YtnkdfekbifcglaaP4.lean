/-
  A part of the proofs over this seat.
  (The texts KrK5 KrM3 KrK6, one behind the other.)
-/
import Derived.Test.YtnkdfekbifcglaaP3
import Derived.Test.YtnkdfekbifcglaaP2
set_option linter.unusedSimpArgs false
set_option linter.unusedVariables false
set_option linter.unusedSectionVars false
section
namespace Go.Ab.T
set_option maxRecDepth 8000
set_option maxHeartbeats 1000000
theorem resOf_ttt (s : St) (a b c : Nat) : resOf s [.t a, .t b, .t c] = some (.tup [s.env a, s.env b, s.env c]) := rfl
attribute [go_sem] resOf_ttt
def SSof (S : List Bool) : SS := fun x => if 0 ≤ x then (S[x.toNat]?).getD false else false
theorem SSof_nat (S : List Bool) (v : Nat) : SSof S (v : Int) = (S[v]?).getD false := by unfold SSof; rw [if_pos (by omega), Int.toNat_natCast]
theorem SSof_set {S : List Bool} {v : Nat} (hv : v < S.length) : SSof (S.set v true) = setS (SSof S) (v : Int) := by
  funext x
  unfold SSof setS
  by_cases hx : x = v
  · subst hx; rw [if_pos rfl, if_pos (by omega), Int.toNat_natCast, List.getElem?_set_self hv]; rfl
  · rw [if_neg hx]
    by_cases h0 : 0 ≤ x
    · simp only [h0, if_true, if_neg hx]; rw [List.getElem?_set_ne (by omega)]
    · simp only [h0, if_false, if_neg hx]
def unseen (S : List Bool) : Nat := S.countP fun b => !b
theorem unseen_set : ∀ {S : List Bool} {v : Nat}, S[v]? = some false → unseen (S.set v true) + 1 = unseen S
  | [], v, h => by simp at h
  | b :: S, 0, h => by simp at h; subst h; simp [unseen]
  | b :: S, v + 1, h => by
    have ih := unseen_set (S := S) (v := v) (by simpa using h)
    unfold unseen at ih ⊢
    simp only [List.set_cons_succ, List.countP_cons]
    omega
theorem unseen_le : ∀ {S S' : List Bool}, S'.length = S.length → (∀ v : Nat, S[v]? = some true → S'[v]? = some true) → unseen S' ≤ unseen S
  | [], [], _, _ => Nat.le_refl _
  | [], _ :: _, h, _ => by simp at h
  | _ :: _, [], h, _ => by simp at h
  | b :: S, c :: S', h, hs => by
    have ih := unseen_le (S := S) (S' := S') (by simpa using h) fun v hv => by have := hs (v + 1) (by simpa using hv); simpa using this
    have h0 := hs 0
    unfold unseen at ih ⊢
    simp only [List.countP_cons]
    cases b <;> cases c <;> simp at h0 ⊢ <;> omega
theorem unseen_pos {S : List Bool} {v : Nat} (h : S[v]? = some false) : 0 < unseen S := by
  have := unseen_set h; omega
theorem over_W {h : Ho} {T : Int} {um ar sn N : Nat} {a : Arc} {v : Int} {w : UM} (hs : Srt w) {bl : List Blk} {tk : List (Nat × Nat)} (hum : bl[um]? = some (.mp (encU w) (.n 2))) (h0 : 0 ≤ lk w a.key) (h1 : lk w a.key ≤ a.w) (hw : a.w ≤ 1000) {K : AV → Mem → Prop}
    (hK : ∀ j, K (.tup [I64 (a.to v), I64 (a.free (lk w) v), I64 (a.sgn v)]) ⟨bl ++ j, tk⟩) : WR ft (.f 76) [floV h T um ar sn N, encA a, I64 v] ⟨bl, tk⟩ K := by
  rw [WR_f ft76 rfl]
  simp only [c76, r76]
  have hFs : (floV h T um ar sn N).solids = true := rfl
  have hAs : (encA a).solids = true := rfl
  have e0 : ∀ (x y : Blk), (bl ++ [x] ++ [y])[bl.length]? = some x := fun x y => by simp
  have e1 : ∀ (x y : Blk), (bl ++ [x] ++ [y])[bl.length + 1]? = some y := fun x y => by simp
  have le : ∀ (x : Blk), (bl ++ [x]).length = bl.length + 1 := fun x => by simp
  have hum' : ∀ (x y : Blk), (bl ++ [x] ++ [y])[um]? = some (.mp (encU w) (.n 2)) := fun x y => getA (getA hum _) _
  have hg := mgetU hs a.key
  have hk : AV.agg [I64 a.p, I64 a.m] = encK a.key := rfl
  have wr := wrap_i64 (a.w - lk w a.key) (by omega) (by omega)
  unfold Arc.to Arc.free Arc.sgn at hK
  have hj := hK [.live [floV h T um ar sn N] 6, .live [encA a] 5]
  cases hc : (a.a == v)
  · simp only [if_neg (show ¬a.a = v by simpa using hc)] at hj
    simp only [go_sem, Nat.reduceEqDiff, Nat.reduceAdd, Nat.reduceLT, Nat.reduceLeDiff, reduceIte, hFs, hAs, e0, e1, le, hc, hum', sameN2, hk, isKeyU, hg]
    simpa using hj
  · simp only [if_pos (show a.a = v by simpa using hc)] at hj
    simp only [go_sem, Nat.reduceEqDiff, Nat.reduceAdd, Nat.reduceLT, Nat.reduceLeDiff, reduceIte, hFs, hAs, e0, e1, le, hc, hum', sameN2, hk, isKeyU, hg, wr]
    simpa using hj
theorem FI.ext {h : Ho} {T : Int} {b0 N : Nat} {bl0 : List Blk} {E : List Arc} {w : UM} {S : List Bool} {bl : List Blk} (H : FI h T b0 N bl0 E w S bl) (j : List Blk) : FI h T b0 N bl0 E w S (bl ++ j) :=
  have hl := (List.getElem?_eq_some_iff.1 H.sn).1
  { um := getA H.um _, ar := (let ⟨r, h1, h2⟩ := H.ar; ⟨r, getA h1 _, h2⟩), sn := getA H.sn _, srt := H.srt, len := H.len, pre := fun i hi => by rw [get_app_lt (by omega)]; exact H.pre i hi }
theorem FI.setU {h : Ho} {T : Int} {b0 N : Nat} {bl0 : List Blk} {E : List Arc} {w w' : UM} {S : List Bool} {bl : List Blk} (H : FI h T b0 N bl0 E w S bl) (hs : Srt w') : FI h T b0 N bl0 E w' S (bl.set (b0 + 4) (.mp (encU w') (.n 2))) :=
  { um := setS' H.um, ar := (let ⟨r, h1, h2⟩ := H.ar; ⟨r, setN h1 (by omega), h2⟩), sn := setN H.sn (by omega), srt := hs, len := H.len, pre := fun i hi => by rw [List.getElem?_set_ne (by omega)]; exact H.pre i hi }
theorem FI.setS {h : Ho} {T : Int} {b0 N : Nat} {bl0 : List Blk} {E : List Arc} {w : UM} {S S' : List Bool} {bl : List Blk} (H : FI h T b0 N bl0 E w S bl) (hs : S'.length = N) : FI h T b0 N bl0 E w S' (bl.set (b0 + 6) (.live (S'.map .bool) 1)) :=
  { um := setN H.um (by omega), ar := (let ⟨r, h1, h2⟩ := H.ar; ⟨r, setN h1 (by omega), h2⟩), sn := setS' H.sn, srt := H.srt, len := hs, pre := fun i hi => by rw [List.getElem?_set_ne (by omega)]; exact H.pre i hi }
theorem idx_A {l : List Arc} {k : Nat} {a : Arc} (h : l[k]? = some a) (t : Tk) (m : Mem) : idxAt m (.sl (l.map encA) t) (I64 (k : Int)) 5 = some (.pv (encA a) 0) := by
  rw [idxAt_sl, if_pos (by omega), Int.toNat_natCast, List.getElem?_map, h]
  rfl
theorem lk_upd (w : UM) (k : K2) (d : Int) : lk (wput k (lk w k + d) w) = updK (lk w) k d := by
  funext j
  rw [lk_wput]
  unfold updK
  by_cases hj : j = k
  · rw [if_pos hj, if_pos hj, hj]
  · rw [if_neg hj, if_neg hj]
theorem to_bd {N : Int} {a : Arc} (h : ArcOK N a) (v : Int) : 0 ≤ a.to v ∧ a.to v < N := by
  have := h.a0
  have := h.a1
  have := h.b0
  have := h.b1
  unfold Arc.to; split <;> omega
theorem free_bd {E : List Arc} {U : US} (hc : Cap E U) {N : Int} {a : Arc} (ha : a ∈ E) (h : ArcOK N a) (v : Int) : 0 ≤ a.free U v ∧ a.free U v ≤ 1000 := by
  have := hc a ha
  have := h.w1
  unfold Arc.free; split <;> omega
theorem sgn_mul (a : Arc) (v x : Int) : a.sgn v * x = x ∨ a.sgn v * x = -x := by
  unfold Arc.sgn
  split
  · left; rw [Int.one_mul]
  · right; rw [Int.neg_mul, Int.one_mul]
theorem lead_W {h : Ho} {T : Int} {b0 N : Nat} {bl0 : List Blk} {E : List Arc} (hKD : KD E) (hok : ∀ a ∈ E, ArcOK N a) (hN : N ≤ 1000) (hN2 : 2 ≤ N) (hEl : E.length ≤ 10000) : ∀ (n : Nat) {bl : List Blk} {tk : List (Nat × Nat)} {w : UM} {S : List Bool} {v P : Int}
    (_ : FI h T b0 N bl0 E w S bl) (_ : Cap E (lk w)) (_ : 0 ≤ v) (_ : v < N) (_ : v = 1 ∨ SSof S v = false) (_ : v = 1 ∨ unseen S ≤ n) (_ : 0 ≤ P) (_ : P ≤ 1000) {K : AV → Mem → Prop}
    (_ : ∀ g w' S' bl', FI h T b0 N bl0 E w' S' bl' → Lead E v P (lk w) (SSof S) g (lk w') (SSof S') → (∀ i, i < bl.length → i ≠ b0 + 4 → i ≠ b0 + 6 → bl'[i]? = bl[i]?) → K (I64 g) ⟨bl', tk⟩),
    WR ft (.f 64) [floV h T (b0 + 4) (b0 + 5) (b0 + 6) N, I64 v, I64 P] ⟨bl, tk⟩ K := by
  intro n
  induction n with
  | zero =>
    intro bl tk w S v P H hc hv0 hv1 hvs hn hP0 hP1 K hK
    have hv : v = 1 := by
      rcases hvs with h1 | h1
      · exact h1
      · rcases hn with h2 | h2
        · exact h2
        · exfalso
          obtain ⟨vn, rfl⟩ := Int.eq_ofNat_of_zero_le hv0
          rw [SSof_nat] at h1
          have hl := H.len
          have : S[vn]? = some false := by
            rw [List.getElem?_eq_getElem (by omega)] at h1 ⊢
            simpa using h1
          have := unseen_pos this
          omega
    subst hv
    rw [WR_f ft64 rfl]
    simp only [c64, r64]
    have hFs : (floV h T (b0 + 4) (b0 + 5) (b0 + 6) N).solids = true := rfl
    have e1 : ((1 : Int) == 1) = true := rfl
    simp only [go_sem, Nat.reduceEqDiff, Nat.reduceAdd, Nat.reduceLT, Nat.reduceLeDiff, reduceIte, hFs, e1]
    refine hK P w S _ (H.ext _) (Lead_out hP0 hc) fun i hi _ _ => get_app_lt hi _
  | succ n ih =>
    intro bl tk w S v P H hc hv0 hv1 hvs hn hP0 hP1 K hK
    rw [WR_f ft64 rfl]
    simp only [c64, r64]
    have hFs : (floV h T (b0 + 4) (b0 + 5) (b0 + 6) N).solids = true := rfl
    by_cases hv : v = 1
    · subst hv
      have e1 : ((1 : Int) == 1) = true := rfl
      simp only [go_sem, Nat.reduceEqDiff, Nat.reduceAdd, Nat.reduceLT, Nat.reduceLeDiff, reduceIte, hFs, e1]
      refine hK P w S _ (H.ext _) (Lead_out hP0 hc) fun i hi _ _ => get_app_lt hi _
    have hvS : SSof S v = false := hvs.resolve_left hv
    have hun : unseen S ≤ n + 1 := hn.resolve_left hv
    obtain ⟨vn, rfl⟩ := Int.eq_ofNat_of_zero_le hv0
    have hvN : vn < N := by omega
    have e1 : ((vn : Int) == 1) = false := by simpa using hv
    obtain ⟨B, hB⟩ : ∃ B, B = bl ++ [Blk.live [floV h T (b0 + 4) (b0 + 5) (b0 + 6) N] 6] := ⟨_, rfl⟩
    have gB : B[bl.length]? = some (.live [floV h T (b0 + 4) (b0 + 5) (b0 + 6) N] 6) := by rw [hB]; simp
    have HB : FI h T b0 N bl0 E w S B := by rw [hB]; exact H.ext _
    have hsl := (List.getElem?_eq_some_iff.1 H.sn).1
    have hSl : vn < S.length := by rw [H.len]; exact hvN
    have hSv : S[vn]? = some false := by
      rw [SSof_nat, List.getElem?_eq_getElem hSl] at hvS
      rw [List.getElem?_eq_getElem hSl]; simpa using hvS
    have i1 := idx_ref (tk := tk) (N := N) (n := (vn : Int)) HB.sn (by omega) hv1
    rw [Int.toNat_natCast] at i1
    have s1 : storeAt ⟨B, tk⟩ (.ptr (b0 + 6) vn 0) (.bool true) 1 = some ⟨B.set (b0 + 6) (.live ((S.map AV.bool).set vn (.bool true)) 1), tk⟩ := store_el HB.sn (e := .bool false) (by rw [List.getElem?_map, hSv]; rfl) ⟨rfl, rfl⟩ rfl
    have hmap : (S.map AV.bool).set vn (.bool true) = (S.set vn true).map AV.bool := by rw [List.map_set]
    rw [hmap] at s1
    obtain ⟨C0, hC0⟩ : ∃ C0, C0 = B.set (b0 + 6) (.live ((S.set vn true).map AV.bool) 1) := ⟨_, rfl⟩
    rw [← hC0] at s1
    have H0 : FI h T b0 N bl0 E w (S.set vn true) C0 := by rw [hC0]; exact HB.setS (by rw [List.length_set]; exact H.len)
    have gC : C0[bl.length]? = some (.live [floV h T (b0 + 4) (b0 + 5) (b0 + 6) N] 6) := by rw [hC0]; exact setN gB (by omega)
    obtain ⟨rows, r1, r2, r3⟩ := H0.ar
    obtain ⟨t, r4⟩ := r3 vn hvN
    have i2 := idx_ref (tk := tk) (N := N) (n := (vn : Int)) r1 (by omega) hv1
    rw [Int.toNat_natCast] at i2
    have l2 := load_el (tk := tk) r1 r4 rfl
    have hf0 : ∀ i, i < bl.length → i ≠ b0 + 4 → i ≠ b0 + 6 → C0[i]? = bl[i]? := fun i hi _ h6 => by
      rw [hC0, List.getElem?_set_ne (Ne.symm h6), hB, get_app_lt hi]
    have hadl := adj_len E vn
    simp only [go_sem, Nat.reduceEqDiff, Nat.reduceAdd, Nat.reduceLT, Nat.reduceLeDiff, reduceIte, hFs, e1, ← hB, gB, i1, s1, gC, i2, l2]
    refine WL_inv (α := Nat × Int × UM × List Bool × List Blk) (fun q e mm => e 1 = I64 (vn : Int) ∧ e 2 = I64 P ∧ e 3 = .ptr bl.length 0 0 ∧ e 7 = I64 q.2.1 ∧ e 25 = .sl ((adj E vn).map encA) t ∧ e 26 = I64 (adj E vn).length ∧ e 27 = I64 q.1 ∧ q.1 ≤ (adj E vn).length ∧ FI h T b0 N bl0 E q.2.2.1 q.2.2.2.1 q.2.2.2.2 ∧
      LeadI E vn P (lk w) (SSof S) ((adj E vn).take q.1) q.2.1 (lk q.2.2.1) (SSof q.2.2.2.1) ∧ (∀ i, i < bl.length → i ≠ b0 + 4 → i ≠ b0 + 6 → q.2.2.2.2[i]? = bl[i]?) ∧ q.2.2.2.2[bl.length]? = some (.live [floV h T (b0 + 4) (b0 + 5) (b0 + 6) N] 6) ∧ mm = ⟨q.2.2.2.2, tk⟩) (fun q => (adj E vn).length - q.1) (0, 0, w, S.set vn true, C0) ?_ ?_
    · have hL0 := LeadI_nil (E := E) (S := SSof S) hP0 hc hv
      rw [← SSof_set hSl] at hL0
      simp only [go_sem, Nat.reduceEqDiff, Nat.reduceAdd, Nat.reduceLT, Nat.reduceLeDiff, reduceIte, List.length_map]
      ((repeat' apply And.intro) <;> first | trivial | rfl | assumption | omega | (exact Nat.zero_le _) | (exact H0) | (exact hL0) | (exact hf0) | (exact gC))
    rintro ⟨k, g, w1, S1, C⟩ e mm ⟨g1, g2, g3, g7, g25, g26, g27, hk, HC, hL, hf, gC1, rfl⟩
    dsimp only at g7 g27 hk HC hL hf gC1
    by_cases hlt : k < (adj E vn).length
    · obtain ⟨a, ha⟩ : ∃ a, (adj E vn)[k]? = some a := ⟨_, List.getElem?_eq_getElem hlt⟩
      obtain ⟨haE, hav⟩ := mem_adj.1 (List.mem_of_getElem? ha)
      have hao := hok a haE
      have hcap := hL.cap a haE
      have hfb := free_bd hL.cap haE hao (vn : Int)
      have htb := to_bd hao (vn : Int)
      have hg0 := hL.g0
      have hg1 := hL.g1
      have hAs : (encA a).solids = true := rfl
      have gJ : ∀ y : Blk, (C ++ [y])[C.length]? = some y := fun y => by simp
      have sJ : ∀ y z : Blk, (C ++ [y]).set C.length z = C ++ [z] := fun y z => by simp
      have gK : ∀ y : Blk, (C ++ [y])[bl.length]? = some (.live [floV h T (b0 + 4) (b0 + 5) (b0 + 6) N] 6) := fun y => getA gC1 _
      have htk : (adj E vn).take (k + 1) = (adj E vn).take k ++ [a] := by rw [List.take_add_one, ha]; rfl
      simp only [go_sem, Nat.reduceEqDiff, Nat.reduceAdd, Nat.reduceLT, Nat.reduceLeDiff, reduceIte, g1, g2, g3, g7, g25, g26, g27, dec_lt hlt, idx_A ha, gJ, sJ, gK, hAs, AEta', WB76]
      refine over_W HC.srt (getA HC.um _) hcap.1 hcap.2 hao.w1 fun j => ?_
      obtain ⟨D, hD⟩ : ∃ D, D = C ++ [Blk.live [encA a] 5] ++ j := ⟨_, rfl⟩
      have HD : FI h T b0 N bl0 E w1 S1 D := by rw [hD]; exact (HC.ext _).ext _
      have gD : D[bl.length]? = some (.live [floV h T (b0 + 4) (b0 + 5) (b0 + 6) N] 6) := by rw [hD]; exact getA (gK _) _
      have gA : D[C.length]? = some (.live [encA a] 5) := by rw [hD]; exact getA (gJ _) _
      have hCl := (List.getElem?_eq_some_iff.1 gC1).1
      have hfD : ∀ i, i < bl.length → i ≠ b0 + 4 → i ≠ b0 + 6 → D[i]? = bl[i]? := fun i hi h4 h6 => by
        rw [hD, List.append_assoc, get_app_lt (by omega)]; exact hf i hi h4 h6
      have wP := wrap_i64 (P - g) (by omega) (by omega)
      obtain ⟨tn, htn⟩ := Int.eq_ofNat_of_zero_le htb.1
      have htN : tn < S1.length := by rw [HC.len]; omega
      have i3 := idx_ref (tk := tk) (N := N) (n := a.to (vn : Int)) HD.sn htb.1 htb.2
      rw [htn, Int.toNat_natCast, ← htn] at i3
      have hSt : SSof S1 (a.to (vn : Int)) = S1[tn] := by rw [htn, SSof_nat, List.getElem?_eq_getElem htN]; rfl
      have l3 : loadAt ⟨D, tk⟩ (.ptr (b0 + 6) tn 0) none = some (.bool (SSof S1 (a.to (vn : Int)))) := load_el HD.sn (by rw [List.getElem?_map, List.getElem?_eq_getElem htN, hSt]; rfl) rfl
      have next : ∀ (g' : Int) (w' : UM) (S' : List Bool) (D' : List Blk) (e' : Nat → AV), FI h T b0 N bl0 E w' S' D' → LeadI E vn P (lk w) (SSof S) ((adj E vn).take (k + 1)) g' (lk w') (SSof S') → (∀ i, i < bl.length → i ≠ b0 + 4 → i ≠ b0 + 6 → D'[i]? = bl[i]?) → D'[bl.length]? = some (.live [floV h T (b0 + 4) (b0 + 5) (b0 + 6) N] 6) →
          e' 1 = I64 (vn : Int) → e' 2 = I64 P → e' 3 = .ptr bl.length 0 0 → e' 7 = I64 g' → e' 25 = .sl ((adj E vn).map encA) t → e' 26 = I64 (adj E vn).length → e' 27 = I64 ((k + 1 : Nat) : Int) →
          @Nx (Nat × Int × UM × List Bool × List Blk) ⟨fun q e mm => e 1 = I64 (vn : Int) ∧ e 2 = I64 P ∧ e 3 = .ptr bl.length 0 0 ∧ e 7 = I64 q.2.1 ∧ e 25 = .sl ((adj E vn).map encA) t ∧ e 26 = I64 (adj E vn).length ∧ e 27 = I64 q.1 ∧ q.1 ≤ (adj E vn).length ∧ FI h T b0 N bl0 E q.2.2.1 q.2.2.2.1 q.2.2.2.2 ∧
      LeadI E vn P (lk w) (SSof S) ((adj E vn).take q.1) q.2.1 (lk q.2.2.1) (SSof q.2.2.2.1) ∧ (∀ i, i < bl.length → i ≠ b0 + 4 → i ≠ b0 + 6 → q.2.2.2.2[i]? = bl[i]?) ∧ q.2.2.2.2[bl.length]? = some (.live [floV h T (b0 + 4) (b0 + 5) (b0 + 6) N] 6) ∧ mm = ⟨q.2.2.2.2, tk⟩, fun q => (adj E vn).length - q.1 < (adj E vn).length - k⟩ e' ⟨D', tk⟩ :=
        fun g' w' S' D' e' a1 a2 a3 a4 a5 a6 a7 a8 a9 a10 a11 => Nx_of (k + 1, g', w', S', D') (by show (adj E vn).length - (k + 1) < _; omega) ⟨a5, a6, a7, a8, a9, a10, a11, hlt, a1, a2, a3, a4, rfl⟩
      have hskip := fun hs => hL.skip haE hs
      cases hb : SSof S1 (a.to (vn : Int)) with
      | true =>
        rw [hb] at l3
        simp only [go_sem, Nat.reduceEqDiff, Nat.reduceAdd, Nat.reduceLT, Nat.reduceLeDiff, reduceIte, g1, g2, g3, g7, g25, g26, g27, ← hD, wP, gD, i3, l3, wrap_n1 k (by omega)]
        exact next g w1 S1 D _ HD (by rw [htk]; exact hskip (.inl hb)) hfD gD (by simp only [go_sem, Nat.reduceEqDiff, Nat.reduceAdd, Nat.reduceLT, Nat.reduceLeDiff, reduceIte, g1]) (by simp only [go_sem, Nat.reduceEqDiff, Nat.reduceAdd, Nat.reduceLT, Nat.reduceLeDiff, reduceIte, g2]) (by simp only [go_sem, Nat.reduceEqDiff, Nat.reduceAdd, Nat.reduceLT, Nat.reduceLeDiff, reduceIte, g3]) (by simp only [go_sem, Nat.reduceEqDiff, Nat.reduceAdd, Nat.reduceLT, Nat.reduceLeDiff, reduceIte, g7]) (by simp only [go_sem, Nat.reduceEqDiff, Nat.reduceAdd, Nat.reduceLT, Nat.reduceLeDiff, reduceIte, g25]) (by simp only [go_sem, Nat.reduceEqDiff, Nat.reduceAdd, Nat.reduceLT, Nat.reduceLeDiff, reduceIte, g26]) (by simp only [go_sem, Nat.reduceEqDiff, Nat.reduceAdd, Nat.reduceLT, Nat.reduceLeDiff, reduceIte])
      | false =>
        rw [hb] at l3
        cases hm : (min (a.free (lk w1) vn) (P - g) == 0) with
        | true =>
          simp only [go_sem, Nat.reduceEqDiff, Nat.reduceAdd, Nat.reduceLT, Nat.reduceLeDiff, reduceIte, g1, g2, g3, g7, g25, g26, g27, ← hD, wP, gD, i3, l3, hm, wrap_n1 k (by omega)]
          exact next g w1 S1 D _ HD (by rw [htk]; exact hskip (.inr (by simpa using hm))) hfD gD (by simp only [go_sem, Nat.reduceEqDiff, Nat.reduceAdd, Nat.reduceLT, Nat.reduceLeDiff, reduceIte, g1]) (by simp only [go_sem, Nat.reduceEqDiff, Nat.reduceAdd, Nat.reduceLT, Nat.reduceLeDiff, reduceIte, g2]) (by simp only [go_sem, Nat.reduceEqDiff, Nat.reduceAdd, Nat.reduceLT, Nat.reduceLeDiff, reduceIte, g3]) (by simp only [go_sem, Nat.reduceEqDiff, Nat.reduceAdd, Nat.reduceLT, Nat.reduceLeDiff, reduceIte, g7]) (by simp only [go_sem, Nat.reduceEqDiff, Nat.reduceAdd, Nat.reduceLT, Nat.reduceLeDiff, reduceIte, g25]) (by simp only [go_sem, Nat.reduceEqDiff, Nat.reduceAdd, Nat.reduceLT, Nat.reduceLeDiff, reduceIte, g26]) (by simp only [go_sem, Nat.reduceEqDiff, Nat.reduceAdd, Nat.reduceLT, Nat.reduceLeDiff, reduceIte])
        | false =>
          have hm' : min (a.free (lk w1) vn) (P - g) ≠ 0 := by simpa using hm
          simp only [go_sem, Nat.reduceEqDiff, Nat.reduceAdd, Nat.reduceLT, Nat.reduceLeDiff, reduceIte, g1, g2, g3, g7, g25, g26, g27, ← hD, wP, gD, i3, l3, hm, WB64]
          have hun2 : unseen S1 ≤ n := by
            have h1 := unseen_set hSv
            have h2 : unseen S1 ≤ unseen (S.set vn true) := unseen_le (by rw [HC.len, List.length_set, H.len]) fun y hy => by
              have hyl := (List.getElem?_eq_some_iff.1 hy).1
              rw [List.length_set, H.len] at hyl
              have hy2 : SSof (S.set vn true) (y : Int) = true := by rw [SSof_nat, hy]; rfl
              rw [SSof_set hSl] at hy2
              have : SSof S1 (y : Int) = true := by
                unfold setS at hy2
                split at hy2
                · rename_i he; rw [he]; exact hL.sv
                · exact hL.sub _ hy2
              rw [SSof_nat, List.getElem?_eq_getElem (by rw [HC.len]; omega)] at this
              rw [List.getElem?_eq_getElem (by rw [HC.len]; omega)]
              simpa using this
            omega
          refine ih HD hL.cap htb.1 htb.2 (.inr hb) (.inr hun2) (by omega) (by omega) fun more w2 S2 D2 H2 hLd hfr => ?_
          have hDl : bl.length < D.length := (List.getElem?_eq_some_iff.1 gD).1
          have hDc : C.length < D.length := (List.getElem?_eq_some_iff.1 gA).1
          have gD2 : D2[bl.length]? = some (.live [floV h T (b0 + 4) (b0 + 5) (b0 + 6) N] 6) := by rw [hfr _ hDl (by omega) (by omega)]; exact gD
          have gA2 : D2[C.length]? = some (.live [encA a] 5) := by rw [hfr _ hDc (by omega) (by omega)]; exact gA
          have hmo0 := hLd.g0
          have hmo1 := hLd.g1
          have hsg := sgn_mul a vn more
          have hcap2 := hLd.cap a haE
          have hwA := hao.w1
          have x1 := wrap_i64 (a.sgn vn * more) (by omega) (by omega)
          have x2 := wrap_i64 (lk w2 a.key + a.sgn vn * more) (by omega) (by omega)
          have x3 := wrap_i64 (g + more) (by omega) (by omega)
          have hkk : AV.agg [I64 a.p, I64 a.m] = encK a.key := rfl
          have hum2 := H2.um
          have hmg := mgetU H2.srt a.key
          have hmp := mputU H2.srt a.key (lk w2 a.key + a.sgn vn * more)
          simp only [go_sem, Nat.reduceEqDiff, Nat.reduceAdd, Nat.reduceLT, Nat.reduceLeDiff, reduceIte, g1, g2, g3, g7, g25, g26, g27, gD2, gA2, hkk, hum2, sameN2, isKeyU, hmg, hmp, x1, x2, x3, wrap_n1 k (by omega)]
          have hgo := hL.go hKD hv hvS haE hav hao.ne hb hm' hLd
          rw [← lk_upd, ← htk] at hgo
          refine next (g + more) _ S2 _ _ (H2.setU (wput_srt H2.srt _ _)) hgo (fun i hi h4 h6 => ?_) (setN gD2 (by omega)) (by simp only [go_sem, Nat.reduceEqDiff, Nat.reduceAdd, Nat.reduceLT, Nat.reduceLeDiff, reduceIte, g1]) (by simp only [go_sem, Nat.reduceEqDiff, Nat.reduceAdd, Nat.reduceLT, Nat.reduceLeDiff, reduceIte, g2]) (by simp only [go_sem, Nat.reduceEqDiff, Nat.reduceAdd, Nat.reduceLT, Nat.reduceLeDiff, reduceIte, g3]) (by simp only [go_sem, Nat.reduceEqDiff, Nat.reduceAdd, Nat.reduceLT, Nat.reduceLeDiff, reduceIte, g7]) (by simp only [go_sem, Nat.reduceEqDiff, Nat.reduceAdd, Nat.reduceLT, Nat.reduceLeDiff, reduceIte, g25]) (by simp only [go_sem, Nat.reduceEqDiff, Nat.reduceAdd, Nat.reduceLT, Nat.reduceLeDiff, reduceIte, g26]) (by simp only [go_sem, Nat.reduceEqDiff, Nat.reduceAdd, Nat.reduceLT, Nat.reduceLeDiff, reduceIte])
          rw [List.getElem?_set_ne (Ne.symm h4), hfr i (by omega) h4 h6]
          exact hfD i hi h4 h6
    · have hke : k = (adj E vn).length := by omega
      subst hke
      simp only [go_sem, Nat.reduceEqDiff, Nat.reduceAdd, Nat.reduceLT, Nat.reduceLeDiff, reduceIte, g1, g2, g3, g7, g25, g26, g27, dec_ge (Nat.le_refl (adj E vn).length)]
      rw [List.take_length] at hL
      exact hK g w1 S1 C HC (hL.done hv fun a ha hav => mem_adj.2 ⟨ha, hav⟩) hf
end Go.Ab.T
end

section
namespace Go.Ab.T
/-! ### Sums -/
def sumR : Nat → (Nat → Int) → Int
  | 0, _ => 0
  | n + 1, f => sumR n f + f n
theorem sumR_congr : ∀ {n : Nat} {f g : Nat → Int}, (∀ i, i < n → f i = g i) → sumR n f = sumR n g
  | 0, _, _, _ => rfl
  | n + 1, f, g, h => by rw [sumR, sumR, sumR_congr fun i hi => h i (by omega), h n (by omega)]
theorem sumR_le : ∀ {n : Nat} {f g : Nat → Int}, (∀ i, i < n → f i ≤ g i) → sumR n f ≤ sumR n g
  | 0, _, _, _ => Int.le_refl _
  | n + 1, f, g, h => by
    have := sumR_le (n := n) (f := f) (g := g) fun i hi => h i (by omega)
    have := h n (by omega)
    simp only [sumR]; omega
theorem sumR_add : ∀ (n : Nat) (f g : Nat → Int), sumR n (fun i => f i + g i) = sumR n f + sumR n g
  | 0, _, _ => rfl
  | n + 1, f, g => by simp only [sumR, sumR_add n f g]; omega
theorem sumR_zero : ∀ (n : Nat), sumR n (fun _ => 0) = 0
  | 0 => rfl
  | n + 1 => by simp only [sumR, sumR_zero n]; omega
theorem sumR_z {n : Nat} {f : Nat → Int} (h : ∀ i, i < n → f i = 0) : sumR n f = 0 := by
  rw [sumR_congr h, sumR_zero]
theorem sumR_nn {n : Nat} {f : Nat → Int} (h : ∀ i, i < n → 0 ≤ f i) : 0 ≤ sumR n f := by
  have := sumR_le (f := fun _ => 0) h
  rwa [sumR_zero] at this
theorem sumR_one {n : Nat} {f : Nat → Int} (h : ∀ i, i < n → 0 ≤ f i) {k : Nat} (hk : k < n) : f k ≤ sumR n f := by
  induction n with
  | zero => omega
  | succ n ih =>
    simp only [sumR]
    have h1 := h n (by omega)
    have h2 := sumR_nn (n := n) (f := f) fun i hi => h i (by omega)
    by_cases hkn : k = n
    · subst hkn; omega
    · have := ih (fun i hi => h i (by omega)) (by omega); omega
theorem sumR_mul (c : Int) : ∀ (n : Nat) (f : Nat → Int), sumR n (fun i => c * f i) = c * sumR n f
  | 0, _ => by simp [sumR]
  | n + 1, f => by simp only [sumR, sumR_mul c n f, Int.mul_add]
/-- Equal sums of terms of which none is greater: all are equal. -/
theorem sumR_eq {n : Nat} {f g : Nat → Int} (h : ∀ i, i < n → f i ≤ g i) (he : sumR n g ≤ sumR n f) : ∀ i, i < n → f i = g i := by
  induction n with
  | zero => intro i hi; omega
  | succ n ih =>
    simp only [sumR] at he
    have h1 := sumR_le (n := n) (f := f) (g := g) fun i hi => h i (by omega)
    have h2 := h n (by omega)
    intro i hi
    by_cases hin : i = n
    · subst hin; omega
    · exact ih (fun i hi => h i (by omega)) (by omega) i (by omega)
theorem sum_range (f : Nat → Int) : ∀ n, ((List.range n).map f).sum = sumR n f
  | 0 => rfl
  | n + 1 => by rw [range_snoc, List.map_append, List.sum_append, sum_range f n]; simp [sumR]
theorem Phi_app (E1 E2 : List Arc) (U : US) (φ : Int → Int) : Phi (E1 ++ E2) U φ = Phi E1 U φ + Phi E2 U φ := by
  unfold Phi; rw [List.map_append, List.sum_append]
theorem Phi_map (f : Nat → Arc) (n : Nat) (U : US) (φ : Int → Int) : Phi ((List.range n).map f) U φ = sumR n fun m => U (f m).key * (φ (f m).a - φ (f m).b) := by
  unfold Phi; rw [List.map_map, ← sum_range]; rfl
theorem Phi_flat (f : Nat → List Arc) (U : US) (φ : Int → Int) : ∀ n, Phi ((List.range n).flatMap f) U φ = sumR n fun i => Phi (f i) U φ
  | 0 => rfl
  | n + 1 => by rw [range_snoc, List.flatMap_append, Phi_app, Phi_flat f U φ n]; simp [sumR]
def pq (h : Ho) (i : Nat) : Pas := (h.s[i]?).getD ⟨0, -1, 0, 1⟩
def pp (h : Ho) (r : Nat) : Int := (h.p[r]?).getD 0
theorem pq_get {h : Ho} {i : Nat} (hi : i < h.s.length) : h.s[i]? = some (pq h i) := by unfold pq; rw [List.getElem?_eq_getElem hi]; rfl
theorem pq_mem {h : Ho} {i : Nat} (hi : i < h.s.length) : pq h i ∈ h.s := List.mem_of_getElem? (pq_get hi)
theorem pp_get {h : Ho} {r : Nat} (hr : r < h.p.length) : h.p[r]? = some (pp h r) := by unfold pp; rw [List.getElem?_eq_getElem hr]; rfl
theorem pp_mem {h : Ho} {r : Nat} (hr : r < h.p.length) : pp h r ∈ h.p := List.mem_of_getElem? (pp_get hr)
theorem sum_get (l : List Int) : l.sum = sumR l.length fun r => (l[r]?).getD 0 := by
  rw [← sum_range]
  congr 1
  refine List.ext_getElem? fun i => ?_
  by_cases h : i < l.length
  · simp [h]
  · rw [List.getElem?_eq_none (by omega), List.getElem?_eq_none (by simp; omega)]
theorem allP_sum (h : Ho) : allP h = sumR h.p.length (pp h) := sum_get h.p
/-- The sum over a house over time. -/
theorem Phi_net (h : Ho) (T : Int) (U : US) (φ : Int → Int) : Phi (net h T) U φ =
    sumR h.p.length (fun r => U (-1 - (r : Int), -1) * (φ 0 - φ (ndI T r 0)) + sumR T.toNat fun m => U (-1 - (r : Int), (m : Int)) * (φ (ndI T r m) - φ (ndI T r (m + 1)))) +
    sumR h.s.length (fun i => sumR (nM T (pq h i)) fun m => U ((i : Int), (m : Int)) * (φ (ndI T (pq h i).fr m) - φ (ndI T (pq h i).to (m + (pq h i).wk)))) := by
  unfold net roomsE passE
  rw [Phi_app, Phi_flat, Phi_flat]
  congr 1
  · refine sumR_congr fun r _ => ?_
    unfold roomA
    rw [Phi_cons, Phi_map]
    rfl
  · refine sumR_congr fun i hi => ?_
    unfold passO
    rw [pq_get hi]
    show Phi (passL T i (pq h i)) U φ = _
    unfold passL
    rw [Phi_map]
    rfl
/-- A flow of so many. -/
structure Flow (h : Ho) (T : Int) (U : US) (val : Int) : Prop where
  cap : Cap (net h T) U
  phi : ∀ φ, Phi (net h T) U φ = val * (φ 0 - φ 1)
  oth : ∀ k, (∀ a ∈ net h T, a.key ≠ k) → U k = 0
theorem start_mem {h : Ho} {T : Int} {r : Nat} (hr : r < h.p.length) : startA h T r ∈ net h T := mem_net.2 (.inl ⟨r, hr, .inl rfl⟩)
theorem stay_mem {h : Ho} {T : Int} {r m : Nat} (hr : r < h.p.length) (hm : m < T.toNat) : stayA h T r m ∈ net h T := mem_net.2 (.inl ⟨r, hr, .inr ⟨m, hm, rfl⟩⟩)
theorem pass_mem {h : Ho} {T : Int} {i m : Nat} (hi : i < h.s.length) (hm : m < nM T (pq h i)) : passA T i (pq h i) m ∈ net h T := mem_net.2 (.inr ⟨i, _, m, pq_get hi, hm, rfl⟩)
section
variable {h : Ho} {T : Int} {U : US} {val : Int}
theorem Flow.st (F : Flow h T U val) {r : Nat} (hr : r < h.p.length) : 0 ≤ U (-1 - (r : Int), -1) ∧ U (-1 - (r : Int), -1) ≤ pp h r := F.cap _ (start_mem hr)
theorem Flow.sy (F : Flow h T U val) {r m : Nat} (hr : r < h.p.length) (hm : m < T.toNat) : 0 ≤ U (-1 - (r : Int), (m : Int)) ∧ U (-1 - (r : Int), (m : Int)) ≤ allP h := F.cap _ (stay_mem hr hm)
theorem Flow.ps (F : Flow h T U val) {i m : Nat} (hi : i < h.s.length) (hm : m < nM T (pq h i)) : 0 ≤ U ((i : Int), (m : Int)) ∧ U ((i : Int), (m : Int)) ≤ (pq h i).wd := F.cap _ (pass_mem hi hm)
/-- How many leave the beginning. -/
theorem Flow.valE (hV : HV h) (hT : 0 ≤ T) (F : Flow h T U val) : val = sumR h.p.length fun r => U (-1 - (r : Int), -1) := by
  have h1 := F.phi fun x => if x = 0 then 1 else 0
  rw [Phi_net] at h1
  simp only [if_true, if_neg (show ¬(1 : Int) = 0 by omega), Int.sub_zero, Int.mul_one] at h1
  rw [← h1]
  have z1 : (sumR h.s.length fun i => sumR (nM T (pq h i)) fun m => U ((i : Int), (m : Int)) * ((if ndI T (pq h i).fr m = 0 then 1 else 0) - if ndI T (pq h i).to (m + (pq h i).wk) = 0 then 1 else 0)) = 0 := by
    refine sumR_z fun i hi => ?_
    refine sumR_z fun m hm => ?_
    have ha := passA_ok hV hT (i := i) (pq_mem hi) hm
    have hb := nd_bd (h := h) (T := T) (r := (pq h i).fr) (m := m) hT (hV.sv _ (pq_mem hi)).f0 (hV.sv _ (pq_mem hi)).f1 (by omega) (by have := nM_lt (hV.sv _ (pq_mem hi)).k0 hm; have := (hV.sv _ (pq_mem hi)).k0; omega)
    have hbn : ndI T (pq h i).to (m + (pq h i).wk) ≠ 0 := ha.bn
    rw [if_neg (by omega), if_neg hbn, Int.sub_self, Int.mul_zero]
  rw [z1, Int.add_zero]
  refine sumR_congr fun r hr => ?_
  have z2 : (sumR T.toNat fun m => U (-1 - (r : Int), (m : Int)) * ((if ndI T r m = 0 then 1 else 0) - if ndI T r (m + 1) = 0 then 1 else 0)) = 0 := by
    refine sumR_z fun m hm => ?_
    have hb := nd_bd (h := h) (T := T) (r := r) (m := m) hT (by omega) (by omega) (by omega) (by omega)
    have hb' := nd_bd (h := h) (T := T) (r := r) (m := m + 1) hT (by omega) (by omega) (by omega) (by omega)
    rw [if_neg (by omega), if_neg (by omega), Int.sub_self, Int.mul_zero]
  have hb := nd_bd (h := h) (T := T) (r := r) (m := 0) hT (by omega) (by omega) (by omega) hT
  rw [z2, if_neg (by omega), Int.sub_zero, Int.mul_one, Int.add_zero]
theorem Flow.val_le (hV : HV h) (hT : 0 ≤ T) (F : Flow h T U val) : 0 ≤ val ∧ val ≤ allP h := by
  rw [F.valE hV hT, allP_sum]
  exact ⟨sumR_nn fun r hr => (F.st hr).1, sumR_le fun r hr => (F.st hr).2⟩
open Classical in
/-- Nobody waits for longer than all there are. -/
theorem Flow.stay_le (hV : HV h) (hT : 0 ≤ T) (F : Flow h T U val) {r m : Nat} (hr : r < h.p.length) (hm : m < T.toNat) : U (-1 - (r : Int), (m : Int)) ≤ val := by
  -- the cut behind the minute m
  obtain ⟨φ, hφ⟩ : ∃ φ : Int → Int, φ = fun x => if x = 0 ∨ ∃ r' m' : Nat, r' < h.p.length ∧ m' ≤ m ∧ x = ndI T r' m' then 1 else 0 := ⟨_, rfl⟩
  have p0 : φ 0 = 1 := by rw [hφ]; simp
  have p1 : φ 1 = 0 := by
    rw [hφ]
    dsimp only
    rw [if_neg]
    rintro (h1 | ⟨r', m', h1, h2, h3⟩)
    · omega
    · have hb := nd_bd (h := h) (T := T) (r := r') (m := m') hT (by omega) (by omega) (by omega) (by omega); omega
  have pn : ∀ r' m' : Nat, r' < h.p.length → (m' : Int) ≤ T → φ (ndI T r' m') = if m' ≤ m then 1 else 0 := fun r' m' h1 h2 => by
    have hb := nd_bd (h := h) (T := T) (r := r') (m := m') hT (by omega) (by omega) (by omega) h2
    rw [hφ]
    dsimp only
    by_cases hmm : m' ≤ m
    · rw [if_pos (.inr ⟨r', m', h1, hmm, rfl⟩), if_pos hmm]
    · rw [if_neg hmm, if_neg]
      rintro (h3 | ⟨r2, m2, h3, h4, h5⟩)
      · omega
      · have := (nd_inj hT (by omega) (by omega) (by omega) h2 (by omega) (by omega) h5).2; omega
  have p01 : ∀ x, 0 ≤ φ x := fun x => by rw [hφ]; dsimp only; split <;> omega
  have hF := F.phi φ
  rw [Phi_net, p0, p1, Int.sub_zero, Int.mul_one] at hF
  rw [← hF]
  have hp : 0 ≤ sumR h.s.length fun i => sumR (nM T (pq h i)) fun m' => U ((i : Int), (m' : Int)) * (φ (ndI T (pq h i).fr m') - φ (ndI T (pq h i).to (m' + (pq h i).wk))) := by
    refine sumR_nn fun i hi => sumR_nn fun m' hm' => Int.mul_nonneg (F.ps hi hm').1 ?_
    have hq := hV.sv _ (pq_mem hi)
    have hmw := nM_lt hq.k0 hm'
    have k0 := hq.k0
    have f0 := hq.f0
    have f1 := hq.f1
    obtain ⟨fr, hfr⟩ := Int.eq_ofNat_of_zero_le f0
    rw [hfr, pn fr m' (by omega) (by omega)]
    by_cases ht : (pq h i).to = -1
    · rw [ht, nd_out, p1]; split <;> omega
    · obtain ⟨to, hto⟩ := Int.eq_ofNat_of_zero_le (show 0 ≤ (pq h i).to by have := hq.t0; omega)
      obtain ⟨wk, hwk⟩ := Int.eq_ofNat_of_zero_le (show 0 ≤ (pq h i).wk by omega)
      have ht1 := hq.t1
      rw [hto, hwk, show (m' : Int) + (wk : Int) = ((m' + wk : Nat) : Int) by omega, pn to (m' + wk) (by omega) (by omega)]
      split <;> split <;> omega
  have hr' := sumR_one (n := h.p.length) (f := fun r => U (-1 - (r : Int), -1) * (1 - φ (ndI T r 0)) + sumR T.toNat fun m => U (-1 - (r : Int), (m : Int)) * (φ (ndI T r m) - φ (ndI T r (m + 1)))) (k := r) (fun r' h1 => by
    have q0 : φ (ndI T r' 0) = 1 := by have := pn r' 0 h1 hT; simpa using this
    rw [q0, Int.sub_self, Int.mul_zero, Int.zero_add]
    refine sumR_nn fun m' hm' => Int.mul_nonneg (F.sy h1 hm').1 ?_
    rw [pn r' m' h1 (by omega), show (m' : Int) + 1 = ((m' + 1 : Nat) : Int) by omega, pn r' (m' + 1) h1 (by omega)]
    split <;> split <;> omega) hr
  try dsimp only at hr'
  have q0 : φ (ndI T r 0) = 1 := by have := pn r 0 hr hT; simpa using this
  rw [q0, Int.sub_self, Int.mul_zero, Int.zero_add] at hr'
  have hm2 := sumR_one (n := T.toNat) (f := fun m => U (-1 - (r : Int), (m : Int)) * (φ (ndI T r m) - φ (ndI T r (m + 1)))) (k := m) (fun m' hm' => Int.mul_nonneg (F.sy hr hm').1 (by
    rw [pn r m' hr (by omega), show (m' : Int) + 1 = ((m' + 1 : Nat) : Int) by omega, pn r (m' + 1) hr (by omega)]
    split <;> split <;> omega)) hm
  try dsimp only at hm2
  rw [pn r m hr (by omega), show (m : Int) + 1 = ((m + 1 : Nat) : Int) by omega, pn r (m + 1) hr (by omega), if_pos (Nat.le_refl _), if_neg (by omega), Int.sub_zero, Int.mul_one] at hm2
  omega
end
end Go.Ab.T
end

section
namespace Go.Ab.T
set_option maxRecDepth 8000
set_option maxHeartbeats 1000000
/-- What can still be reached when nobody more can be led outside. -/
structure Cut (h : Ho) (T : Int) (U : US) (S : SS) : Prop where
  s0 : S 0 = true
  s1 : S 1 = false
  cl : ∀ x, S x = true → ∀ a ∈ net h T, a.at' x → 0 < a.free U x → S (a.to x) = true
  non : (∀ a ∈ net h T, a.at' 0 → a.free U 0 = 0) → ∀ x, S x = true → x = 0
theorem Cut_of {h : Ho} (hV : HV h) {T : Int} (hT : 0 ≤ T) {U U' : US} {S S' : SS} (hS : ∀ x, S x = false) (hF : Cap (net h T) U) (hL : Lead (net h T) 0 (allP h) U S 0 U' S') : U' = U ∧ Cut h T U S' := by
  have ha := all_nn hV
  by_cases hp : 0 < allP h
  · obtain ⟨z1, z2, z3, z4⟩ := hL.zero hp rfl
    refine ⟨z1, z3, by rw [hL.s1]; exact hS _, fun x hx a ha hax hf => z4 x hx (hS x) a ha hax hf, fun hn x hx => ?_⟩
    obtain ⟨_, _, n3⟩ := hL.non (by omega) (.inr hn)
    exact (n3 x hx).resolve_left (by rw [hS]; simp)
  · obtain ⟨n1, n2, n3⟩ := hL.non (by omega) (.inl (by omega))
    have hx0 : ∀ x, S' x = true → x = 0 := fun x hx => (n3 x hx).resolve_left (by rw [hS]; simp)
    refine ⟨n2, hL.sv (by omega), by rw [hL.s1]; exact hS _, fun x hx a ha' hax hf => ?_, fun _ => hx0⟩
    obtain rfl := hx0 x hx
    exfalso
    have hao := net_ok hV hT ha'
    have haa : a.a = 0 := hax.resolve_right hao.bn
    have hcap := hF a ha'
    have hw : a.w = 0 := by
      rcases mem_net.1 ha' with ⟨r, hr, rfl | ⟨m, hm, rfl⟩⟩ | ⟨i, q, m, hq, hm, rfl⟩
      · show pp h r = 0
        have h1 := sumR_one (n := h.p.length) (f := pp h) (fun i hi => (hV.pe _ (pp_mem hi)).1) hr
        have h2 := hV.pe _ (pp_mem hr)
        rw [← allP_sum] at h1
        omega
      · exfalso
        have hb := nd_bd (h := h) (T := T) (r := r) (m := m) hT (by omega) (by omega) (by omega) (by omega)
        have : ndI T r m = 0 := haa
        omega
      · exfalso
        have hq' := hV.sv q (List.mem_of_getElem? hq)
        have hmw := nM_lt hq'.k0 hm
        have hb := nd_bd (h := h) (T := T) (r := q.fr) (m := m) hT hq'.f0 hq'.f1 (by omega) (by have := hq'.k0; omega)
        have : ndI T q.fr m = 0 := haa
        omega
    unfold Arc.free at hf
    rw [if_pos haa] at hf
    omega
theorem Flow_zero {h : Ho} (hV : HV h) {T : Int} (hT : 0 ≤ T) : Flow h T (lk []) 0 :=
  ⟨fun a ha => ⟨Int.le_refl _, (net_ok hV hT ha).w0⟩, fun φ => by
    rw [Int.zero_mul]
    unfold Phi
    have : ∀ l : List Arc, (l.map fun a => lk [] a.key * (φ a.a - φ a.b)).sum = 0 := by
      intro l
      induction l with
      | nil => rfl
      | cons a r ih => rw [List.map_cons, List.sum_cons, ih]; show 0 * _ + 0 = (0 : Int); rw [Int.zero_mul]; rfl
    exact this _, fun _ _ => rfl⟩
theorem Flow_step {h : Ho} {T : Int} {U U' : US} {S S' : SS} {val P g : Int} (F : Flow h T U val) (hL : Lead (net h T) 0 P U S g U' S') : Flow h T U' (val + g) :=
  ⟨hL.cap, fun φ => by rw [hL.phi, F.phi, Int.add_mul], fun k hk => by rw [hL.oth k hk]; exact F.oth k hk⟩
theorem SSof_none (N : Nat) (x : Int) : SSof (List.replicate N false) x = false := by
  unfold SSof
  split
  · rw [List.getElem?_replicate]; split <;> rfl
  · rfl
theorem clear_el {bl : List Blk} {tk : List (Nat × Nat)} {id N : Nat} {S : List Bool} (h : bl[id]? = some (.live (S.map AV.bool) 1)) (hl : S.length = N) (hN : 0 < N) : clearAt ⟨bl, tk⟩ (.ref id 0 N) (.bool false) 1 = some ⟨bl.set id (.live ((List.replicate N false).map AV.bool) 1), tk⟩ := by
  simp only [clearAt, h]
  have hl2 : (S.map AV.bool).length = N := by rw [List.length_map, hl]
  rw [if_pos ⟨⟨⟨by omega, hN⟩, by first | trivial | rfl⟩, by first | trivial | rfl, by first | trivial | rfl⟩]
  rw [List.map_replicate, List.take_zero, List.nil_append, Nat.zero_add, List.drop_of_length_le (by omega), List.append_nil]
theorem emptied_W {h : Ho} (hV : HV h) {T : Int} (hT0 : 0 ≤ T) (hT : T ≤ 60) {N : Nat} (hN : nN h T = N) {bl : List Blk} {tk : List (Nat × Nat)} {K : AV → Mem → Prop}
    (hK : ∀ w S val bl' tk', FI h T (bl.length + 2) N bl' (net h T) w S bl' → Flow h T (lk w) val → Cut h T (lk w) (SSof S) → (∀ i, i < bl.length → bl'[i]? = bl[i]?) → K (floV h T (bl.length + 2 + 4) (bl.length + 2 + 5) (bl.length + 2 + 6) N) ⟨bl', tk'⟩) : WR ft (.f 46) [encH h, I64 T] ⟨bl, tk⟩ K := by
  rw [WR_f ft46 rfl]
  simp only [c46, r46]
  have n1 := hV.n1
  have n6 := hV.n6
  have hNn : (N : Int) = 2 + h.p.length * (T + 1) := by rw [← hN]; rfl
  have hmb : (h.p.length : Int) * (T + 1) ≤ 6 * 61 := by
    calc (h.p.length : Int) * (T + 1) ≤ 6 * (T + 1) := Int.mul_le_mul_of_nonneg_right (by omega) (by omega)
      _ ≤ 6 * 61 := by omega
  have hmn : 0 ≤ (h.p.length : Int) * (T + 1) := Int.mul_nonneg (by omega) (by omega)
  have ha := all_nn hV
  obtain ⟨B, hB⟩ : ∃ B, B = bl ++ [Blk.live [encH h] 2] ++ [Blk.live [AV.agg [.sl [] .tight, .sl [] .tight, AV.int .i64 0, .nilm, .sl [] .tight, .sl [] .tight]] 6] := ⟨_, rfl⟩
  have e0 : B[bl.length]? = some (.live [encH h] 2) := by rw [hB]; simp
  have e4 : B[bl.length + 1]? = some (.live [zF] 6) := by rw [hB]; simp; rfl
  have hBl : B.length = bl.length + 2 := by rw [hB]; simp
  have l1 : (bl ++ [Blk.live [encH h] 2]).length = bl.length + 1 := by simp
  have hEl : (net h T).length ≤ 10000 := by
    unfold net
    have h1 := passE_len h hT (fun q hq => (hV.sv q hq).k0) h.s.length
    have h2 : h.p.length * (T.toNat + 1) ≤ 6 * 61 := Nat.mul_le_mul (by omega) (by omega)
    have h3 := hV.sl
    rw [List.length_append, roomsE_len]; omega
  simp only [go_sem, Nat.reduceEqDiff, Nat.reduceAdd, Nat.reduceLT, Nat.reduceLeDiff, reduceIte, l1, solid_nilm, solid_mp, ← hB, e0, HEta, WB63]
  refine newFlow_W hV hT0 hT hN fun C tc HC => ?_
  rw [hBl] at HC ⊢
  obtain ⟨b0, hb0⟩ : ∃ b0, b0 = bl.length + 2 := ⟨_, rfl⟩
  have h1b : bl.length + 1 = b0 - 1 := by omega
  rw [← hb0] at hK HC ⊢
  have hFs : (floV h T (b0 + 4) (b0 + 5) (b0 + 6) N).solids = true := rfl
  have gJ : ∀ y : Blk, (C ++ [y])[C.length]? = some y := fun y => by simp
  have sJ : ∀ y z : Blk, (C ++ [y]).set C.length z = C ++ [z] := fun y z => by simp
  simp only [go_sem, Nat.reduceEqDiff, Nat.reduceAdd, Nat.reduceLT, Nat.reduceLeDiff, reduceIte, hFs, gJ, sJ, solid_nilm, solid_mp]
  have hCl := (List.getElem?_eq_some_iff.1 HC.sn).1
  obtain ⟨C1, hC1⟩ : ∃ C1, C1 = C ++ [Blk.live [floV h T (b0 + 4) (b0 + 5) (b0 + 6) N] 6] := ⟨_, rfl⟩
  have HC1 : FI h T b0 N B (net h T) [] (List.replicate N false) C1 := by rw [hC1]; exact HC.ext _
  refine WL_inv (α := Int × UM × List Blk) (fun q e mm => e 4 = .ptr (bl.length + 1) 0 0 ∧ (e 5 = .pv (floV h T (b0 + 4) (b0 + 5) (b0 + 6) N) 0 ∨ (e 5 = .ptr C.length 0 0 ∧ q.2.2[C.length]? = some (.live [floV h T (b0 + 4) (b0 + 5) (b0 + 6) N] 6))) ∧ FI h T b0 N B (net h T) q.2.1 (List.replicate N false) q.2.2 ∧ Flow h T (lk q.2.1) q.1 ∧ mm = ⟨q.2.2, tc⟩) (fun q => (allP h - q.1).toNat) (0, [], C1) ?_ ?_
  · simp only [go_sem, Nat.reduceEqDiff, Nat.reduceAdd, Nat.reduceLT, Nat.reduceLeDiff, reduceIte]
    refine ⟨trivial, .inr ⟨trivial, ?_⟩, HC1, Flow_zero hV hT0, ?_⟩
    · rw [hC1]; exact gJ _
    · rw [hC1]; rfl
  rintro ⟨val, w, D⟩ e mm ⟨g4, g5, HD, hF, rfl⟩
  dsimp only at g5 HD hF
  obtain ⟨D1, hz, HD1⟩ : ∃ D1, frzsAt ⟨D, tc⟩ (e 5) = some (.pv (floV h T (b0 + 4) (b0 + 5) (b0 + 6) N) 0, ⟨D1, tc⟩) ∧ FI h T b0 N B (net h T) w (List.replicate N false) D1 := by
    rcases g5 with g5 | ⟨g5, gb⟩
    · exact ⟨D, by rw [g5]; rfl, HD⟩
    · refine ⟨D.set C.length .dead, by rw [g5]; simp only [frzsAt, gb]; rfl, ?_⟩
      exact ⟨setN HD.um (by omega), let ⟨r, h1, h2⟩ := HD.ar; ⟨r, setN h1 (by omega), h2⟩, setN HD.sn (by omega), HD.srt, HD.len, fun i hi => by rw [List.getElem?_set_ne (by omega)]; exact HD.pre i hi⟩
  simp only [go_sem, Nat.reduceEqDiff, Nat.reduceAdd, Nat.reduceLT, Nat.reduceLeDiff, reduceIte, g4, hz, WB65]
  refine everyone_W (h := h) (T := T) (um := b0 + 4) hV fun j => ?_
  simp only [go_sem, Nat.reduceEqDiff, Nat.reduceAdd, Nat.reduceLT, Nat.reduceLeDiff, reduceIte, g4, WB64]
  have HD2 := HD1.ext j
  refine lead_W (net_KD h T) (fun a ha => by rw [← hN]; exact net_ok hV hT0 ha) (by omega) (by omega) hEl (unseen (List.replicate N false)) HD2 hF.cap (Int.le_refl _) (by omega) (.inr (SSof_none _ _)) (.inr (Nat.le_refl _)) ha.1 (by omega) fun g w' S' D3 H3 hL hfr => ?_
  have hF' := Flow_step hF hL
  have hvb := hF'.val_le hV hT0
  have hg0 := hL.g0
  cases hg : decide (0 < g) with
  | true =>
    have hg' := of_decide_eq_true hg
    have hc := clear_el (tk := tc) H3.sn H3.len (by omega)
    simp only [go_sem, Nat.reduceEqDiff, Nat.reduceAdd, Nat.reduceLT, Nat.reduceLeDiff, reduceIte, g4, hg, hc]
    refine Nx_of (val + g, w', D3.set (b0 + 6) (.live ((List.replicate N false).map AV.bool) 1)) (by show (allP h - (val + g)).toNat < (allP h - val).toNat; omega) ?_
    simp only [go_sem, Nat.reduceEqDiff, Nat.reduceAdd, Nat.reduceLT, Nat.reduceLeDiff, reduceIte, g4]
    exact ⟨trivial, .inl trivial, H3.setS (by simp), hF', by first | trivial | rfl⟩
  | false =>
    have hg' := of_decide_eq_false hg
    obtain rfl : g = 0 := by omega
    obtain ⟨c1, c2⟩ := Cut_of hV hT0 (SSof_none N) hF.cap hL
    have p4 : D3[bl.length + 1]? = some (.live [zF] 6) := by rw [H3.pre _ (by omega)]; exact e4
    unfold zF at p4
    have gS : ∀ y, (D3.set (bl.length + 1) y)[bl.length + 1]? = some y := fun y => setS' p4
    simp only [go_sem, Nat.reduceEqDiff, Nat.reduceAdd, Nat.reduceLT, Nat.reduceLeDiff, reduceIte, g4, hg, p4, hFs, solid_mp, solid_nilm, gS]
    refine hK w' S' val _ tc ⟨setN H3.um (by omega), let ⟨r, h1, h2⟩ := H3.ar; ⟨r, setN h1 (by omega), h2⟩, setN H3.sn (by omega), H3.srt, H3.len, fun _ _ => rfl⟩ (by rw [c1]; exact hF) (by rw [c1]; exact c2) fun i hi => ?_
    rw [List.getElem?_set_ne (by omega), H3.pre i (by omega), hB, List.append_assoc, get_app_lt hi]
end Go.Ab.T
end
