/-
 A part of the proofs over this seat.
 (The texts KqK25 KqK26 KqM7 KqM8 KqM9, one behind the other.)
-/
import Derived.Test.YtlmhadnbcmjaeaaGreatP8
set_option linter.unusedSimpArgs false
set_option linter.unusedVariables false
set_option linter.unusedSectionVars false
section
namespace Go.Ab.T
set_option maxRecDepth 8000
set_option maxHeartbeats 4000000
def plcM (S : HZ) (n : Int) : Pc := match lkP S.ords n with | some x => x.pc | none => ⟨0, -1, -1, 0⟩
theorem wPc (p : Pc) (a b c d : Int) : writeCells (encPc p) 0 [I64 a, I64 b, I64 c, I64 d] = some (encPc ⟨a, b, c, d⟩) := rfl
def encRows (s : List (List Int)) : AV := .sl (s.map encIs) .unk
def mapM (h : Hl) (l : List Cl) (m : Int) : List (List Int) := if lisE h l m = 0 then (afterM h l m).seats else []
theorem snRefs {rows : List Rw} {bl : List Blk} (hr : ∀ p ∈ rows, bl[p.1]? = some (.live (iL p.2) 1)) (tk : List (Nat × Nat)) (t : Tk) (q : Nat) : Ab.snap ⟨bl, tk⟩ (q + 4) (.sl (rows.map refR) t) = encRows (rows.map Prod.snd) := by
 show AV.sl ((rows.map refR).map (Ab.snap _ (q + 3))) .unk = _
 unfold encRows
 rw [List.map_map, List.map_map]
 congr 1
 apply List.map_congr_left
 intro p hp
 exact snap_row (m := ⟨bl, tk⟩) (hr p hp) q
theorem best_HS {fr : List (Nat × Blk)} {a : Nat} {rv : AV} {hold : Int} {S : HZ} {N : Nat} {bl : List Blk} (h : HS fr a rv hold S bl) (hb : HB S N) {z : Nat} (hz : 1 ≤ z) (hz2 : z ≤ 1000) (tk : List (Nat × Nat)) (K : AV → Mem → Prop)
  (hK : ∀ ext, K (bestA (bestS S.seats z)) ⟨bl ++ ext, tk⟩) : WR ft (.f 40) [.ptr a 0 0, I64 (z : Int)] ⟨bl, tk⟩ K := by
 obtain ⟨mid, rows, ords, vn, hw, hv, e1, e2⟩ := h.ex
 have hlen : rows.length ≤ 6 := by rw [← List.length_map (f := Prod.snd), e1]; exact hb.len
 refine best_W hz hz2 (by omega) (fun p hp => ?_) bl tk (hw.hf tk) K ?_
 ·have := hb.row p.2 (by rw [← e1]; exact List.mem_map.2 ⟨p, hp, rfl⟩)
  omega
 ·rw [bestM_ids, e1]; exact hK
theorem HB.fold {hold : Int} : ∀ (l : List Cl) {S : HZ} {N : Nat}, HB S N → (∀ c ∈ l, CV c) → HB (l.foldl (hearM hold) S) (N + l.length)
 | [], _, _, h, _ => h
 | c :: r, S, N, h, hc => by
  have := HB.fold (hold := hold) r (h.hear (hc c (by simp)) hold) fun x hx => hc x (by simp [hx])
  rw [List.foldl_cons]
  exact ⟨this.inv, this.len, this.row, by rw [List.length_cons]; have := this.vn; omega⟩
theorem lisE_ok {h : Hl} {l : List Cl} {m : Int} (he : lisE h l m = 0) : chkE h l = 0 ∧ 0 ≤ m ∧ m ≤ 9999 := by
 unfold lisE at he
 by_cases hc : chkE h l = 0
 ·rw [if_pos hc] at he
  by_cases hm : inR m 0 9999 = true
  ·obtain ⟨a, b⟩ := inR_iff hm
   exact ⟨hc, a, b⟩
  ·rw [if_neg hm] at he; cases he
 ·rw [if_neg hc] at he; exact absurd he hc
theorem after_HB {h : Hl} {l : List Cl} {m : Int} (he : lisE h l m = 0) : HB (afterM h l m) 40 := by
 obtain ⟨hc, _⟩ := lisE_ok he
 obtain ⟨ho, h40, hcv, _⟩ := chk_ok hc
 have hf := HB.fold (hold := h.hold) ((heardM l).filter fun c => decide (c.at' ≤ m)) (HB.empty ho) fun c hc => hcv c (heard_sub l c (List.mem_filter.1 hc).1)
 have hb := hf.lapse h.hold m
 refine ⟨hb.inv, hb.len, hb.row, Nat.le_trans hb.vn ?_⟩
 have h1 : ((heardM l).filter fun c => decide (c.at' ≤ m)).length ≤ (heardM l).length := List.length_filter_le _ _
 have h2 := heard_len (l := l)
 omega
def bstE (h : Hl) (l : List Cl) (m z : Int) : Int := if lisE h l m = 0 then (if szR z = true then (if (bestS (afterM h l m).seats z.toNat).isSome = true then 0 else 3) else 1) else lisE h l m
def bstM (h : Hl) (l : List Cl) (m z : Int) : Option (Nat × Nat) := if bstE h l m z = 0 then bestS (afterM h l m).seats z.toNat else none
theorem Best_ok (h : Hl) (l : List Cl) (m z : Int) : RV ft 19 [encH h, encCs l, I64 m, I64 z] (.tup [I64 (f4 (bstM h l m z)), I64 (f5 (bstM h l m z)), I64 (bstE h l m z)]) := by
 refine RV_of ft19 rfl ?_
 simp only [c19, r19]
 simp only [go_sem, Nat.reduceEqDiff, Nat.reduceAdd, Nat.reduceLT, Nat.reduceLeDiff, reduceIte, HEta, WB31]
 show WR ft (.f 31) _ _ _
 refine listen_W h l m _ _ (fun he bl' tk => ?_) fun he v bl' tk hp => ?_
 ·have hne : (lisE h l m != 0) = true := by simpa using he
  have hE : bstE h l m z = lisE h l m := by unfold bstE; rw [if_neg he]
  have hM : bstM h l m z = none := by unfold bstM; rw [hE, if_neg he]
  rw [hE, hM]
  simp only [go_sem, Nat.reduceEqDiff, Nat.reduceAdd, Nat.reduceLT, Nat.reduceLeDiff, reduceIte, gA0, List.cons_append, List.nil_append, List.getElem?_cons_zero, hne]
  rfl
 ·have bnz : ((0 : Int) != 0) = false := rfl
  have hI := isSize_ok z
  have hB := hp.box
  obtain ⟨a, mid, rows, ords, vn, t, ev, hva, hw, hv, _⟩ := hp
  obtain ⟨hvc, hvs⟩ : vn.cells = [vn] ∧ vn.solid = true := by
   rcases hv with ⟨_, e⟩ | ⟨_, id, e, _⟩ <;> rw [e] <;> exact ⟨rfl, rfl⟩
  subst ev
  unfold bstM bstE
  rw [if_pos he]
  cases hn : szR z
  ·rw [hn] at hI
   simp only [go_sem, Nat.reduceEqDiff, Nat.reduceAdd, Nat.reduceLT, Nat.reduceLeDiff, reduceIte, bnz, WB39, WVH_eq hI, true_and, hvc, hvs, gA0, sA0, List.getElem?_cons_zero, List.set_cons_zero]
   rfl
  ·rw [hn] at hI
   obtain ⟨z1, z2⟩ := inR_iff (show inR z 1 12 = true from hn)
   obtain ⟨zn, rfl⟩ : ∃ zn : Nat, z = zn := ⟨z.toNat, by omega⟩
   simp only [go_sem, Nat.reduceEqDiff, Nat.reduceAdd, Nat.reduceLT, Nat.reduceLeDiff, reduceIte, bnz, WB39, WVH_eq hI, true_and, hvc, hvs, gA0, sA0, List.getElem?_cons_zero, List.set_cons_zero, WB40]
   show WR ft (.f 40) _ _ _
   refine best_HS hB (after_HB he) (by omega) (by omega) tk _ fun ext => ?_
   rw [Int.toNat_natCast]
   cases hb : bestS (afterM h l m).seats zn with
   | none =>
    simp only [go_sem, Nat.reduceEqDiff, Nat.reduceAdd, Nat.reduceLT, Nat.reduceLeDiff, reduceIte, bestA, Option.isSome_none]
    rfl
   | some q =>
    simp only [go_sem, Nat.reduceEqDiff, Nat.reduceAdd, Nat.reduceLT, Nat.reduceLeDiff, reduceIte, bestA, Option.isSome_some]
    rfl
def larF (seats : List (List Int)) : Nat → Nat
 | 0 => 0
 | n + 1 => if (bestS seats (n + 1)).isSome = true then n + 1 else larF seats n
def larM (h : Hl) (l : List Cl) (m : Int) : Int := if lisE h l m = 0 then (larF (afterM h l m).seats 12 : Nat) else 0
theorem Largest_ok (h : Hl) (l : List Cl) (m : Int) : RV ft 21 [encH h, encCs l, I64 m] (.tup [I64 (larM h l m), I64 (lisE h l m)]) := by
 refine RV_of ft21 rfl ?_
 simp only [c21, r21]
 simp only [go_sem, Nat.reduceEqDiff, Nat.reduceAdd, Nat.reduceLT, Nat.reduceLeDiff, reduceIte, HEta, WB31]
 show WR ft (.f 31) _ _ _
 refine listen_W h l m _ _ (fun he bl' tk => ?_) fun he v bl' tk hp => ?_
 ·have hne : (lisE h l m != 0) = true := by simpa using he
  have hM : larM h l m = 0 := by unfold larM; rw [if_neg he]
  rw [hM]
  simp only [go_sem, Nat.reduceEqDiff, Nat.reduceAdd, Nat.reduceLT, Nat.reduceLeDiff, reduceIte, gA0, List.cons_append, List.nil_append, List.getElem?_cons_zero, hne]
 ·have bnz : ((0 : Int) != 0) = false := rfl
  have hB := hp.box
  obtain ⟨a, mid, rows, ords, vn, t, ev, hva, hw, hv, _⟩ := hp
  obtain ⟨hvc, hvs⟩ : vn.cells = [vn] ∧ vn.solid = true := by
   rcases hv with ⟨_, e⟩ | ⟨_, id, e, _⟩ <;> rw [e] <;> exact ⟨rfl, rfl⟩
  subst ev
  unfold larM
  rw [if_pos he, he]
  simp only [go_sem, Nat.reduceEqDiff, Nat.reduceAdd, Nat.reduceLT, Nat.reduceLeDiff, reduceIte, bnz, hvc, hvs, gA0, sA0, List.getElem?_cons_zero, List.set_cons_zero]
  refine WL_inv (α := Nat) (fun q e mm => e 8 = .ptr bl'.length 0 0 ∧ e 10 = I64 q ∧ q ≤ 12 ∧ larF (afterM h l m).seats q = larF (afterM h l m).seats 12 ∧ ∃ ext, mm = ⟨bl' ++ [Blk.live [.agg [encIs h.rows, I64 h.hold, .sl (rows.map refR) t, .mp mid, vn]] 5] ++ ext, tk⟩) (fun q => q) 12 ?_ ?_
  ·simp only [go_sem, Nat.reduceEqDiff, Nat.reduceAdd, Nat.reduceLT, Nat.reduceLeDiff, reduceIte]
   exact ⟨t_, rfl, by first | trivial | omega, t_, [], by simp⟩
  rintro q e mm ⟨g8, g10, hq, hl, ext, rfl⟩
  cases q with
  | zero =>
   simp only [go_sem, Nat.reduceEqDiff, Nat.reduceAdd, Nat.reduceLT, Nat.reduceLeDiff, reduceIte, g8, g10, show decide ((0 : Int) < ((0 : Nat) : Int)) = false from rfl]
   rw [← hl]; rfl
  | succ q =>
   have d1 : decide ((0 : Int) < ((q + 1 : Nat) : Int)) = true := decide_eq_true (by omega)
   simp only [go_sem, Nat.reduceEqDiff, Nat.reduceAdd, Nat.reduceLT, Nat.reduceLeDiff, reduceIte, g8, g10, d1, WB40]
   show WR ft (.f 40) _ _ _
   refine best_HS (hB.ext ext) (after_HB he) (by omega) (by omega) tk _ fun ext2 => ?_
   cases hb : bestS (afterM h l m).seats (q + 1) with
   | none =>
    have hw1 : IntKind.i64.wrap (((q + 1 : Nat) : Int) - 1) = (q : Int) := by rw [wrap_i64 _ (by omega) (by omega)]; omega
    simp only [go_sem, Nat.reduceEqDiff, Nat.reduceAdd, Nat.reduceLT, Nat.reduceLeDiff, reduceIte, bestA, Option.isSome_none, hw1, g8, g10]
    refine Nx_of q (by omega) ?_
    simp only [go_sem, Nat.reduceEqDiff, Nat.reduceAdd, Nat.reduceLT, Nat.reduceLeDiff, reduceIte, g8]
    refine ⟨t_, t_, by first | trivial | omega, ?_, ext ++ ext2, by simp⟩
    rw [← hl, larF, hb]; rfl
   | some p =>
    simp only [go_sem, Nat.reduceEqDiff, Nat.reduceAdd, Nat.reduceLT, Nat.reduceLeDiff, reduceIte, bestA, Option.isSome_some, g8, g10]
    rw [← hl, larF, hb]; rfl
theorem plcM_spec {S : HZ} (h : HInv S) (n : Int) : (plcM S n = ⟨0, -1, -1, 0⟩ ∧ lkP S.ords n = none) ∨ ∃ x, (n, x) ∈ S.ords ∧ lkP S.ords n = some x ∧ plcM S n = x.pc := by
 unfold plcM
 cases hl : lkP S.ords n with
 | none => exact .inl ⟨rfl, rfl⟩
 | some x => exact .inr ⟨x, lkP_mem hl, rfl, rfl⟩
theorem plcM_of {S : HZ} (h : HInv S) {n : Int} {x : Od} (hx : (n, x) ∈ S.ords) : plcM S n = x.pc := by
 unfold plcM; rw [lkP_of h.nd hx]
theorem hasB_iff (x : Od) : hasB x = true ↔ (x.pc.st = 2 ∨ x.pc.st = 3) := by
 unfold hasB; rw [Bool.or_eq_true, beq_iff_eq, beq_iff_eq]
structure goes (x y : Od) : Prop where
 sz : y.pc.size = x.pc.size
 as : y.asked = x.asked
 held : x.pc.st = 2 → y = x ∨ y.pc.st = 3 ∨ y.pc.st = 4 ∨ y.pc.st = 5
 sold : x.pc.st = 3 → y = x ∨ y = outO x 5
 gone : x.pc.st ≠ 2 → x.pc.st ≠ 3 → y = x
theorem goes.refl (x : Od) : goes x x := ⟨rfl, rfl, fun _ => .inl rfl, fun _ => .inl rfl, fun _ _ => rfl⟩
theorem goes.trans {x y z : Od} (h1 : goes x y) (h2 : goes y z) : goes x z := by
 refine ⟨h2.sz.trans h1.sz, h2.as.trans h1.as, fun hx => ?_, fun hx => ?_, fun hx hx' => ?_⟩
 ·rcases h1.held hx with e | e | e | e
  ·rw [e] at h2; exact h2.held hx
  ·rcases h2.sold e with e2 | e2
   ·rw [e2]; exact .inr (.inl e)
   ·rw [e2]; exact .inr (.inr (.inr rfl))
  ·rw [h2.gone (by omega) (by omega)]; exact .inr (.inr (.inl e))
  ·rw [h2.gone (by omega) (by omega)]; exact .inr (.inr (.inr e))
 ·rcases h1.sold hx with e | e
  ·rw [e] at h2; exact h2.sold hx
  ·rw [h2.gone (by rw [e]; exact (by decide : (5 : Int) ≠ 2)) (by rw [e]; exact (by decide : (5 : Int) ≠ 3)), e]; exact .inr rfl
 ·rw [h1.gone hx hx'] at h2; exact h2.gone hx hx'
def isPl (s : List (List Int)) (z r i : Nat) : Prop := ∃ row, s[r]? = some row ∧ plcR row z (i : Int) = true
theorem plcR_fit {row : List Int} : ∀ {z i : Nat}, 1 ≤ z → plcR row z (i : Int) = true → i + z ≤ row.length
 | z + 1, i, _, h => by
  have := plcR_free (row := row) (z := z + 1) (s := (i : Int)) (by omega) h (i + z) (by omega) (by omega)
  have := (List.getElem?_eq_some_iff.1 this).1
  omega
theorem plcF_iff {row : List Int} {z r : Nat} : ∀ (k s : Nat) (q : Nat × Nat), q ∈ plcF row z r k s ↔ q.1 = r ∧ s ≤ q.2 ∧ q.2 < s + k ∧ plcR row z (q.2 : Int) = true
 | 0, s, q => by
  show q ∈ [] ↔ _
  constructor
  ·intro h; cases h
  ·intro h; omega
 | k + 1, s, q => by
  rw [plcF]
  split
  ·rename_i hp
   rw [List.mem_cons, plcF_iff k (s + 1) q]
   constructor
   ·rintro (e | ⟨a, b, c, d⟩)
    ·rw [e]; exact ⟨rfl, by omega, by omega, hp⟩
    ·exact ⟨a, by omega, by omega, d⟩
   ·rintro ⟨a, b, c, d⟩
    by_cases e : q.2 = s
    ·exact .inl (Prod.ext a e)
    ·exact .inr ⟨a, by omega, by omega, d⟩
  ·rename_i hp
   rw [plcF_iff k (s + 1) q]
   constructor
   ·rintro ⟨a, b, c, d⟩; exact ⟨a, by omega, by omega, d⟩
   ·rintro ⟨a, b, c, d⟩
    refine ⟨a, ?_, by omega, d⟩
    by_cases e : q.2 = s
    ·rw [e] at d; exact absurd d hp
    ·omega
theorem plcs_iff {z : Nat} (hz : 1 ≤ z) : ∀ (s : List (List Int)) (k : Nat) (q : Nat × Nat), q ∈ plcs z (idsM s) k ↔ k ≤ q.1 ∧ isPl s z (q.1 - k) q.2
 | [], k, q => by
  show q ∈ [] ↔ _
  constructor
  ·intro h; cases h
  ·rintro ⟨_, row, h, _⟩; cases h
 | r :: s, k, q => by
  show q ∈ plcF r z k (r.length + 1 - z) 0 ++ plcs z (idsM s) (k + 1) ↔ _
  rw [List.mem_append, plcF_iff, plcs_iff hz s (k + 1) q]
  constructor
  ·rintro (⟨a, b, c, d⟩ | ⟨a, row, b, c⟩)
   ·exact ⟨by omega, r, by rw [a, Nat.sub_self]; rfl, d⟩
   ·refine ⟨by omega, row, ?_, c⟩
    rw [show q.1 - k = (q.1 - (k + 1)) + 1 by omega, List.getElem?_cons_succ]; exact b
  ·rintro ⟨a, row, b, c⟩
   by_cases e : q.1 = k
   ·rw [e, Nat.sub_self, List.getElem?_cons_zero] at b
    cases b
    have := plcR_fit hz c
    exact .inl ⟨e, by omega, by omega, c⟩
   ·rw [show q.1 - k = (q.1 - (k + 1)) + 1 by omega, List.getElem?_cons_succ] at b
    exact .inr ⟨by omega, row, b, c⟩
theorem noGap_ids (s : List (List Int)) (z : Nat) (q : Nat × Nat) {row : List Int} (h : s[q.1]? = some row) : noGap (idsM s) z q = !gapR row (q.2 : Int) z := by
 unfold noGap rowAt
 rw [ids_get, h]; rfl
theorem bestS_some {s : List (List Int)} {z : Nat} (hz : 1 ≤ z) {q : Nat × Nat} (h : bestS s z = some q) : isPl s z q.1 q.2 ∧ (∀ row : List Int, s[q.1]? = some row → gapR row (q.2 : Int) z = true → ∀ (r i : Nat) (row' : List Int), s[r]? = some row' → plcR row' z (i : Int) = true → gapR row' (i : Int) z = true) := by
 have hm := bestM_mem h
 have h1 := (plcs_iff hz s 0 q).1 hm
 rw [Nat.sub_zero] at h1
 refine ⟨h1.2, fun row hr hg r i row' hr' hp' => ?_⟩
 unfold bestS bestM at h
 cases hf : (plcs z (idsM s) 0).find? (noGap (idsM s) z) with
 | some q' =>
  rw [hf] at h
  cases h
  have := List.find?_some hf
  rw [noGap_ids s z q hr, hg] at this
  cases this
 | none =>
  rw [List.find?_eq_none] at hf
  have hmm := (plcs_iff hz s 0 (r, i)).2 ⟨Nat.zero_le _, row', by rw [Nat.sub_zero]; exact hr', hp'⟩
  have := hf _ hmm
  rw [noGap_ids s z (r, i) hr'] at this
  simpa using this
theorem bestS_none {s : List (List Int)} {z : Nat} (hz : 1 ≤ z) : bestS s z = none ↔ ∀ r i, ¬isPl s z r i := by
 constructor
 ·intro h r i hp
  have hm := (plcs_iff hz s 0 (r, i)).2 ⟨Nat.zero_le _, by rw [Nat.sub_zero]; exact hp⟩
  unfold bestS bestM at h
  cases hf : (plcs z (idsM s) 0).find? (noGap (idsM s) z) with
  | some q' => rw [hf] at h; cases h
  | none =>
   rw [hf, Option.none_or, List.head?_eq_none_iff] at h
   rw [h] at hm; cases hm
 ·intro h
  cases hb : bestS s z with
  | none => rfl
  | some q => exact absurd (bestS_some hz hb).1 (h q.1 q.2)
end Go.Ab.T
end
