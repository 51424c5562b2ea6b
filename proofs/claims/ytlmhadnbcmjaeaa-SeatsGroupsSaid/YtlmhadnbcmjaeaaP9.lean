/-
 A part of the proofs over this seat.
 (The texts KhK25 KhK26 KhM7 KhM8 KhM9, one behind the other.)
-/
import Derived.Test.YtlmhadnbcmjaeaaP8
set_option linter.unusedSimpArgs false
set_option linter.unusedVariables false
set_option linter.unusedSectionVars false
section
namespace Go.Ab.T
set_option maxRecDepth 8000
set_option maxHeartbeats 4000000
def plcM (S : HZ) (n : Int) : Pc := match lkP S.ords n with | some x => x.pc | none => ⟨0, -1, -1, 0⟩
theorem state_W {fr : List (Nat × Blk)} {a : Nat} {rv : AV} {hold : Int} {S : HZ} {bl : List Blk} (h : HS fr a rv hold S bl) (n : Int) (tk : List (Nat × Nat)) (K : AV → Mem → Prop)
  (hK : ∀ ext, K (encPc (plcM S n)) ⟨bl ++ ext, tk⟩) : WR ft (.f 36) [.ptr a 0 0, I64 n] ⟨bl, tk⟩ K := by
 rw [WR_f ft36 rfl]
 simp only [c36, r36]
 obtain ⟨mid, rows, ords, vn, hw, hv, e1, e2⟩ := h.ex
 obtain ⟨t, ha⟩ := hw.ha
 have hm := hw.hm
 have hget := mget_im_ok .nilp (ords.map kvO) n
 rw [ilook_kv] at hget
 have ha' := fun l => gB ha l
 have hm' := fun l => gB hm l
 unfold plcM at hK
 rw [← e2] at hK
 cases hl : lkO ords n with
 | none =>
  rw [hl] at hget
  rw [lk_none hl] at hK
  simp only [Option.map_none, Option.getD_none, Option.isSome_none] at hget
  simp only [go_sem, Nat.reduceEqDiff, Nat.reduceAdd, Nat.reduceLT, Nat.reduceLeDiff, reduceIte, ha', hm', hget, gA0, sA0, List.getElem?_cons_zero, List.set_cons_zero]
  exact hK _
 | some p =>
  obtain ⟨b, x⟩ := p
  rw [hl] at hget
  rw [lk_some hl] at hK
  simp only [Option.map_some, Option.getD_some, Option.isSome_some] at hget
  have hb := hw.ho _ (lkO_mem hl)
  dsimp only at hb
  have hb' := fun l => gB hb l
  simp only [go_sem, Nat.reduceEqDiff, Nat.reduceAdd, Nat.reduceLT, Nat.reduceLeDiff, reduceIte, ha', hm', hb', hget, gA0, sA0, List.getElem?_cons_zero, List.set_cons_zero, PcEta, PcCells]
  exact hK _
def ordE (h : Hl) (l : List Cl) (m n : Int) : Int := if lisE h l m = 0 then (if inR n 0 99 = true then 0 else 1) else lisE h l m
def ordM (h : Hl) (l : List Cl) (m n : Int) : Pc := if ordE h l m n = 0 then plcM (afterM h l m) n else ⟨0, 0, 0, 0⟩
theorem wPc (p : Pc) (a b c d : Int) : writeCells (encPc p) 0 [I64 a, I64 b, I64 c, I64 d] = some (encPc ⟨a, b, c, d⟩) := rfl
theorem Order_ok (h : Hl) (l : List Cl) (m n : Int) : RV ft 14 [encH h, encCs l, I64 m, I64 n] (.tup [encPc (ordM h l m n), I64 (ordE h l m n)]) := by
 refine RV_of ft14 rfl ?_
 simp only [c14, r14]
 have zPc : AV.agg [I64 0, I64 0, I64 0, I64 0] = encPc ⟨0, 0, 0, 0⟩ := rfl
 simp only [go_sem, Nat.reduceEqDiff, Nat.reduceAdd, Nat.reduceLT, Nat.reduceLeDiff, reduceIte, HEta, WB34]
 show WR ft (.f 34) _ _ _
 refine listen_W h l m _ _ (fun he bl' tk => ?_) fun he v bl' tk hp => ?_
 ·have hne : (lisE h l m != 0) = true := by simpa using he
  have hE : ordE h l m n = lisE h l m := by unfold ordE; rw [if_neg he]
  have hM : ordM h l m n = ⟨0, 0, 0, 0⟩ := by unfold ordM; rw [hE, if_neg he]
  rw [hE, hM]
  simp only [go_sem, Nat.reduceEqDiff, Nat.reduceAdd, Nat.reduceLT, Nat.reduceLeDiff, reduceIte, List.cons_append, List.nil_append, hne]
  rfl
 ·have bnz : ((0 : Int) != 0) = false := rfl
  have hI := isId_ok n
  have hB := hp.box
  obtain ⟨a, mid, rows, ords, vn, t, ev, hva, hw, hv, _⟩ := hp
  obtain ⟨hvc, hvs⟩ : vn.cells = [vn] ∧ vn.solid = true := by
   rcases hv with ⟨_, e⟩ | ⟨_, id, e, _⟩ <;> rw [e] <;> exact ⟨rfl, rfl⟩
  subst ev
  have f1 : bl'[1]? = some (.live [encPc ⟨0, 0, 0, 0⟩] 4) := (hw.fr' (1, _) (mem_frs rfl)).1
  have f1' := fun l => gB f1 l
  have hlt2 : ∀ l, 1 < (bl' ++ l).length := fun l => (List.getElem?_eq_some_iff.1 (f1' l)).1
  unfold ordE ordM ordE
  rw [if_pos he]
  cases hn : inR n 0 99
  ·rw [hn] at hI
   simp only [go_sem, Nat.reduceEqDiff, Nat.reduceAdd, Nat.reduceLT, Nat.reduceLeDiff, reduceIte, bnz, WB35, WVH_eq hI, true_and, f1', hvc, hvs, wPc, List.getElem?_set_self (hlt2 _), gA0, sA0, List.getElem?_cons_zero, List.set_cons_zero]
   rfl
  ·rw [hn] at hI
   simp only [go_sem, Nat.reduceEqDiff, Nat.reduceAdd, Nat.reduceLT, Nat.reduceLeDiff, reduceIte, bnz, WB35, WVH_eq hI, true_and, gA0, sA0, List.getElem?_cons_zero, List.set_cons_zero, hvc, hvs, WB36]
   show WR ft (.f 36) _ _ _
   refine state_W hB n tk _ fun ext => ?_
   simp only [go_sem, Nat.reduceEqDiff, Nat.reduceAdd, Nat.reduceLT, Nat.reduceLeDiff, reduceIte, List.append_assoc, f1', wPc, PcCells, List.getElem?_set_self (hlt2 _)]
   rfl
end Go.Ab.T
end
section
namespace Go.Ab.T
set_option maxRecDepth 8000
set_option maxHeartbeats 4000000
theorem best_HS {fr : List (Nat × Blk)} {a : Nat} {rv : AV} {hold : Int} {S : HZ} {N : Nat} {bl : List Blk} (h : HS fr a rv hold S bl) (hb : HB S N) {z : Nat} (hz : 1 ≤ z) (hz2 : z ≤ 1000) (tk : List (Nat × Nat)) (K : AV → Mem → Prop)
  (hK : ∀ ext, K (bestA (bestS S.seats z)) ⟨bl ++ ext, tk⟩) : WR ft (.f 40) [.ptr a 0 0, I64 (z : Int)] ⟨bl, tk⟩ K := by
 obtain ⟨mid, rows, ords, vn, hw, hv, e1, e2⟩ := h.ex
 have hlen : rows.length ≤ 6 := by rw [← List.length_map (f := Prod.snd), e1]; exact hb.len
 refine best_W hz hz2 (by omega) (fun p hp => ?_) bl tk (hw.hf tk) K ?_
 ·have := hb.row p.2 (by rw [← e1]; exact List.mem_map.2 ⟨p, hp, rfl⟩)
  omega
 ·rw [bestM_ids, e1]; exact hK
theorem HB.fold {hold : Int} : ∀ (l : List Cl) {S : HZ} {N : Nat}, HB S N → (∀ c ∈ l, CV c) → HB (l.foldl (hearM hold) S) (N + l.length)
 | [], _, _, h, _ => h
 | c :: r, S, N, h, hc => by
  have := HB.fold (hold := hold) r (h.hear (hc c (by simp)) hold) fun x hx => hc x (by simp [hx])
  rw [List.foldl_cons]
  exact ⟨this.inv, this.len, this.row, by rw [List.length_cons]; have := this.vn; omega⟩
theorem lisE_ok {h : Hl} {l : List Cl} {m : Int} (he : lisE h l m = 0) : chkE h l = 0 ∧ 0 ≤ m ∧ m ≤ 9999 := by
 unfold lisE at he
 by_cases hc : chkE h l = 0
 ·rw [if_pos hc] at he
  by_cases hm : inR m 0 9999 = true
  ·obtain ⟨a, b⟩ := inR_iff hm
   exact ⟨hc, a, b⟩
  ·rw [if_neg hm] at he; cases he
 ·rw [if_neg hc] at he; exact absurd he hc
theorem after_HB {h : Hl} {l : List Cl} {m : Int} (he : lisE h l m = 0) : HB (afterM h l m) 40 := by
 obtain ⟨hc, _⟩ := lisE_ok he
 obtain ⟨ho, h40, hcv, _⟩ := chk_ok hc
 have hf := HB.fold (hold := h.hold) ((heardM l).filter fun c => decide (c.at' ≤ m)) (HB.empty ho) fun c hc => hcv c (heard_sub l c (List.mem_filter.1 hc).1)
 have hb := hf.lapse h.hold m
 refine ⟨hb.inv, hb.len, hb.row, Nat.le_trans hb.vn ?_⟩
 have h1 : ((heardM l).filter fun c => decide (c.at' ≤ m)).length ≤ (heardM l).length := List.length_filter_le _ _
 have h2 := heard_len (l := l)
 omega
def bstE (h : Hl) (l : List Cl) (m z : Int) : Int := if lisE h l m = 0 then (if szR z = true then (if (bestS (afterM h l m).seats z.toNat).isSome = true then 0 else 3) else 1) else lisE h l m
def bstM (h : Hl) (l : List Cl) (m z : Int) : Option (Nat × Nat) := if bstE h l m z = 0 then bestS (afterM h l m).seats z.toNat else none
theorem Best_ok (h : Hl) (l : List Cl) (m z : Int) : RV ft 20 [encH h, encCs l, I64 m, I64 z] (.tup [I64 (f4 (bstM h l m z)), I64 (f5 (bstM h l m z)), I64 (bstE h l m z)]) := by
 refine RV_of ft20 rfl ?_
 simp only [c20, r20]
 simp only [go_sem, Nat.reduceEqDiff, Nat.reduceAdd, Nat.reduceLT, Nat.reduceLeDiff, reduceIte, HEta, WB34]
 show WR ft (.f 34) _ _ _
 refine listen_W h l m _ _ (fun he bl' tk => ?_) fun he v bl' tk hp => ?_
 ·have hne : (lisE h l m != 0) = true := by simpa using he
  have hE : bstE h l m z = lisE h l m := by unfold bstE; rw [if_neg he]
  have hM : bstM h l m z = none := by unfold bstM; rw [hE, if_neg he]
  rw [hE, hM]
  simp only [go_sem, Nat.reduceEqDiff, Nat.reduceAdd, Nat.reduceLT, Nat.reduceLeDiff, reduceIte, gA0, List.cons_append, List.nil_append, List.getElem?_cons_zero, hne]
  rfl
 ·have bnz : ((0 : Int) != 0) = false := rfl
  have hI := isSize_ok z
  have hB := hp.box
  obtain ⟨a, mid, rows, ords, vn, t, ev, hva, hw, hv, _⟩ := hp
  obtain ⟨hvc, hvs⟩ : vn.cells = [vn] ∧ vn.solid = true := by
   rcases hv with ⟨_, e⟩ | ⟨_, id, e, _⟩ <;> rw [e] <;> exact ⟨rfl, rfl⟩
  subst ev
  unfold bstM bstE
  rw [if_pos he]
  cases hn : szR z
  ·rw [hn] at hI
   simp only [go_sem, Nat.reduceEqDiff, Nat.reduceAdd, Nat.reduceLT, Nat.reduceLeDiff, reduceIte, bnz, WB39, WVH_eq hI, true_and, hvc, hvs, gA0, sA0, List.getElem?_cons_zero, List.set_cons_zero]
   rfl
  ·rw [hn] at hI
   obtain ⟨z1, z2⟩ := inR_iff (show inR z 1 12 = true from hn)
   obtain ⟨zn, rfl⟩ : ∃ zn : Nat, z = zn := ⟨z.toNat, by omega⟩
   simp only [go_sem, Nat.reduceEqDiff, Nat.reduceAdd, Nat.reduceLT, Nat.reduceLeDiff, reduceIte, bnz, WB39, WVH_eq hI, true_and, hvc, hvs, gA0, sA0, List.getElem?_cons_zero, List.set_cons_zero, WB40]
   show WR ft (.f 40) _ _ _
   refine best_HS hB (after_HB he) (by omega) (by omega) tk _ fun ext => ?_
   rw [Int.toNat_natCast]
   cases hb : bestS (afterM h l m).seats zn with
   | none =>
    simp only [go_sem, Nat.reduceEqDiff, Nat.reduceAdd, Nat.reduceLT, Nat.reduceLeDiff, reduceIte, bestA, Option.isSome_none]
    rfl
   | some q =>
    simp only [go_sem, Nat.reduceEqDiff, Nat.reduceAdd, Nat.reduceLT, Nat.reduceLeDiff, reduceIte, bestA, Option.isSome_some]
    rfl
def larF (seats : List (List Int)) : Nat → Nat
 | 0 => 0
 | n + 1 => if (bestS seats (n + 1)).isSome = true then n + 1 else larF seats n
def larM (h : Hl) (l : List Cl) (m : Int) : Int := if lisE h l m = 0 then (larF (afterM h l m).seats 12 : Nat) else 0
theorem Largest_ok (h : Hl) (l : List Cl) (m : Int) : RV ft 23 [encH h, encCs l, I64 m] (.tup [I64 (larM h l m), I64 (lisE h l m)]) := by
 refine RV_of ft23 rfl ?_
 simp only [c23, r23]
 simp only [go_sem, Nat.reduceEqDiff, Nat.reduceAdd, Nat.reduceLT, Nat.reduceLeDiff, reduceIte, HEta, WB34]
 show WR ft (.f 34) _ _ _
 refine listen_W h l m _ _ (fun he bl' tk => ?_) fun he v bl' tk hp => ?_
 ·have hne : (lisE h l m != 0) = true := by simpa using he
  have hM : larM h l m = 0 := by unfold larM; rw [if_neg he]
  rw [hM]
  simp only [go_sem, Nat.reduceEqDiff, Nat.reduceAdd, Nat.reduceLT, Nat.reduceLeDiff, reduceIte, gA0, List.cons_append, List.nil_append, List.getElem?_cons_zero, hne]
 ·have bnz : ((0 : Int) != 0) = false := rfl
  have hB := hp.box
  obtain ⟨a, mid, rows, ords, vn, t, ev, hva, hw, hv, _⟩ := hp
  obtain ⟨hvc, hvs⟩ : vn.cells = [vn] ∧ vn.solid = true := by
   rcases hv with ⟨_, e⟩ | ⟨_, id, e, _⟩ <;> rw [e] <;> exact ⟨rfl, rfl⟩
  subst ev
  unfold larM
  rw [if_pos he, he]
  simp only [go_sem, Nat.reduceEqDiff, Nat.reduceAdd, Nat.reduceLT, Nat.reduceLeDiff, reduceIte, bnz, hvc, hvs, gA0, sA0, List.getElem?_cons_zero, List.set_cons_zero]
  refine WL_inv (α := Nat) (fun q e mm => e 8 = .ptr bl'.length 0 0 ∧ e 10 = I64 q ∧ q ≤ 12 ∧ larF (afterM h l m).seats q = larF (afterM h l m).seats 12 ∧ ∃ ext, mm = ⟨bl' ++ [Blk.live [.agg [encIs h.rows, I64 h.hold, .sl (rows.map refR) t, .mp mid, vn]] 5] ++ ext, tk⟩) (fun q => q) 12 ?_ ?_
  ·simp only [go_sem, Nat.reduceEqDiff, Nat.reduceAdd, Nat.reduceLT, Nat.reduceLeDiff, reduceIte]
   exact ⟨trivial, rfl, by first | trivial | omega, trivial, [], by simp⟩
  rintro q e mm ⟨g8, g10, hq, hl, ext, rfl⟩
  cases q with
  | zero =>
   simp only [go_sem, Nat.reduceEqDiff, Nat.reduceAdd, Nat.reduceLT, Nat.reduceLeDiff, reduceIte, g8, g10, show decide ((0 : Int) < ((0 : Nat) : Int)) = false from rfl]
   rw [← hl]; rfl
  | succ q =>
   have d1 : decide ((0 : Int) < ((q + 1 : Nat) : Int)) = true := decide_eq_true (by omega)
   simp only [go_sem, Nat.reduceEqDiff, Nat.reduceAdd, Nat.reduceLT, Nat.reduceLeDiff, reduceIte, g8, g10, d1, WB40]
   show WR ft (.f 40) _ _ _
   refine best_HS (hB.ext ext) (after_HB he) (by omega) (by omega) tk _ fun ext2 => ?_
   cases hb : bestS (afterM h l m).seats (q + 1) with
   | none =>
    have hw1 : IntKind.i64.wrap (((q + 1 : Nat) : Int) - 1) = (q : Int) := by rw [wrap_i64 _ (by omega) (by omega)]; omega
    simp only [go_sem, Nat.reduceEqDiff, Nat.reduceAdd, Nat.reduceLT, Nat.reduceLeDiff, reduceIte, bestA, Option.isSome_none, hw1, g8, g10]
    refine Nx_of q (by omega) ?_
    simp only [go_sem, Nat.reduceEqDiff, Nat.reduceAdd, Nat.reduceLT, Nat.reduceLeDiff, reduceIte, g8]
    refine ⟨trivial, trivial, by first | trivial | omega, ?_, ext ++ ext2, by simp⟩
    rw [← hl, larF, hb]; rfl
   | some p =>
    simp only [go_sem, Nat.reduceEqDiff, Nat.reduceAdd, Nat.reduceLT, Nat.reduceLeDiff, reduceIte, bestA, Option.isSome_some, g8, g10]
    rw [← hl, larF, hb]; rfl
end Go.Ab.T
end
section
namespace Go.Ab.T
def lensM (s : List (List Int)) : List Int := s.map fun r => (r.length : Int)
theorem lens_kill (q : Int → Bool) (st : Int) (S : HZ) : lensM (killM q st S).seats = lensM S.seats := by
 show lensM (offM q S.seats) = _
 unfold lensM offM
 rw [List.map_map]
 apply List.map_congr_left
 intro r _
 simp only [Function.comp]
 rw [offR_len]
theorem lens_set (s : List (List Int)) (r : Nat) (row : List Int) (hl : ∀ x, s[r]? = some x → row.length = x.length) : lensM (s.set r row) = lensM s := by
 unfold lensM
 apply List.ext_getElem?
 intro i
 rw [List.getElem?_map, List.getElem?_map, List.getElem?_set]
 by_cases hi : r = i
 ·subst hi
  rw [if_pos rfl]
  by_cases hr : r < s.length
  ·rw [if_pos hr, List.getElem?_eq_getElem hr, Option.map_some, Option.map_some, hl _ (List.getElem?_eq_getElem hr)]
  ·rw [if_neg hr, List.getElem?_eq_none (by omega)]
 ·rw [if_neg hi]
theorem lens_call (c : Cl) (S : HZ) : lensM (callM c S).seats = lensM S.seats := by
 unfold callM askM payM dropM
 split
 ·split
  ·rfl
  ·split
   ·rfl
   ·unfold seatM
    refine lens_set _ _ _ fun x hx => ?_
    rw [fillR_len, List.getD_eq_getElem?_getD, hx]; rfl
 ·split
  ·split
   ·split <;> rfl
   ·rfl
  ·split
   ·split
    ·split
     ·exact lens_kill _ _ _
     ·rfl
    ·rfl
   ·rfl
theorem lens_hear (hold : Int) (S : HZ) (c : Cl) : lensM (hearM hold S c).seats = lensM S.seats := by
 unfold hearM; rw [lens_call]; exact lens_kill _ _ _
theorem lens_fold (hold : Int) : ∀ (l : List Cl) (S : HZ), lensM (l.foldl (hearM hold) S).seats = lensM S.seats
 | [], _ => rfl
 | c :: r, S => by rw [List.foldl_cons, lens_fold hold r, lens_hear]
theorem lens_after {h : Hl} (hr : ∀ x ∈ h.rows, 1 ≤ x ∧ x ≤ 12) (l : List Cl) (m : Int) : lensM (afterM h l m).seats = h.rows := by
 unfold afterM lapseM
 rw [lens_kill, lens_fold]
 unfold lensM emptyM
 rw [List.map_map]
 conv => rhs; rw [← List.map_id h.rows]
 apply List.map_congr_left
 intro x hx
 have := hr x hx
 simp only [Function.comp, List.length_replicate, id]
 omega
end Go.Ab.T
end
section
namespace Go.Ab.T
theorem fold_lapse {hold m m' : Int} {T : HZ} (hT : HInv T) (hm : m ≤ m') : ∀ (l : List Cl), (∀ c ∈ l, CV c ∧ m ≤ c.at') → lapseM hold m' (l.foldl (hearM hold) (lapseM hold m T)) = lapseM hold m' (l.foldl (hearM hold) T)
 | [], _ => lapse_lapse hT hm
 | c :: r, hc => by
  rw [List.foldl_cons, List.foldl_cons]
  have : hearM hold (lapseM hold m T) c = hearM hold T c := by
   unfold hearM
   rw [lapse_lapse hT (hc c (by simp)).2]
  rw [this]
structure goes (x y : Od) : Prop where
 sz : y.pc.size = x.pc.size
 as : y.asked = x.asked
 held : x.pc.st = 2 → y = x ∨ y.pc.st = 3 ∨ y.pc.st = 4 ∨ y.pc.st = 5
 sold : x.pc.st = 3 → y = x ∨ y = outO x 5
 gone : x.pc.st ≠ 2 → x.pc.st ≠ 3 → y = x
theorem goes.refl (x : Od) : goes x x := ⟨rfl, rfl, fun _ => .inl rfl, fun _ => .inl rfl, fun _ _ => rfl⟩
theorem goes.trans {x y z : Od} (h1 : goes x y) (h2 : goes y z) : goes x z := by
 refine ⟨h2.sz.trans h1.sz, h2.as.trans h1.as, fun hx => ?_, fun hx => ?_, fun hx hx' => ?_⟩
 ·rcases h1.held hx with e | e | e | e
  ·rw [e] at h2; exact h2.held hx
  ·rcases h2.sold e with e2 | e2
   ·rw [e2]; exact .inr (.inl e)
   ·rw [e2]; exact .inr (.inr (.inr rfl))
  ·rw [h2.gone (by omega) (by omega)]; exact .inr (.inr (.inl e))
  ·rw [h2.gone (by omega) (by omega)]; exact .inr (.inr (.inr e))
 ·rcases h1.sold hx with e | e
  ·rw [e] at h2; exact h2.sold hx
  ·rw [h2.gone (by rw [e]; exact (by decide : (5 : Int) ≠ 2)) (by rw [e]; exact (by decide : (5 : Int) ≠ 3)), e]; exact .inr rfl
 ·rw [h1.gone hx hx'] at h2; exact h2.gone hx hx'
theorem held_lapse {S : HZ} (h : HInv S) {hold m : Int} {p : Int × Od} (hp : p ∈ (lapseM hold m S).ords) (h2 : p.2.pc.st = 2) : m < p.2.asked + hold := by
 obtain ⟨x, hx, ⟨_, e⟩ | ⟨hq, e⟩⟩ := killM_mem hp
 ·rw [e] at h2; cases h2
 ·rw [lapP_of h hx] at hq
  rw [e] at h2 ⊢
  unfold lapB at hq
  rw [h2] at hq
  have := of_decide_eq_false (show decide (x.asked + hold ≤ m) = false by simpa using hq)
  omega
end Go.Ab.T
end
section
namespace Go.Ab.T
theorem ords_from {hold : Int} : ∀ (l : List Cl) {S : HZ} {P : Int → Prop}, (∀ p ∈ S.ords, P p.1) → (∀ c ∈ l, P c.order) → ∀ p ∈ (l.foldl (hearM hold) S).ords, P p.1
 | [], S, P, h, _ => h
 | c :: r, S, P, h, hc => by
  refine ords_from r (S := hearM hold S c) ?_ fun d hd => hc d (by simp [hd])
  have hk : ∀ (q : Int → Bool) (st : Int) (S : HZ), (∀ p ∈ S.ords, P p.1) → ∀ p ∈ (killM q st S).ords, P p.1 := fun q st S hS p hp => by
   obtain ⟨x, hx, _⟩ := killM_mem hp
   exact hS (p.1, x) hx
  have h' := hk (lapP hold c.at' S.ords) 4 S h
  change ∀ p ∈ (lapseM hold c.at' S).ords, P p.1 at h'
  have hco := hc c (by simp)
  unfold hearM callM askM payM dropM
  generalize lapseM hold c.at' S = S at h'
  split
  ·split
   ·exact h'
   ·split
    ·intro p hp
     rcases List.mem_append.1 hp with hp | hp
     ·exact h' p hp
     ·rw [List.mem_singleton] at hp; rw [hp]; exact hco
    ·intro p hp
     rcases List.mem_append.1 hp with hp | hp
     ·exact h' p hp
     ·rw [List.mem_singleton] at hp; rw [hp]; exact hco
  ·split
   ·split
    ·split
     ·intro p hp
      rcases updM_mem hp with ⟨e, _⟩ | ⟨hp, _⟩
      ·rw [e]; exact hco
      ·exact h' p hp
     ·exact h'
    ·exact h'
   ·split
    ·split
     ·split
      ·exact hk _ _ _ h'
      ·exact h'
     ·exact h'
    ·exact h'
theorem after_from {h : Hl} {l : List Cl} {m : Int} {P : Int → Prop} (hc : ∀ c ∈ l, P c.order) : ∀ p ∈ (afterM h l m).ords, P p.1 := fun p hp => by
 obtain ⟨x, hx, _⟩ := killM_mem hp
 exact ords_from _ (show ∀ p ∈ (emptyM h.rows).ords, P p.1 from fun p hp => absurd (show p ∈ [] from hp) List.not_mem_nil) (fun c hc' => hc c (heard_sub l c (List.mem_filter.1 hc').1)) (p.1, x) hx
theorem heard_app {l L : List Cl} (hn : noCl l) (hv : ∀ c ∈ l, CV c) (hL : asc L) (hvL : ∀ c ∈ L, CV c) (hb : ∀ c ∈ l, ∀ d ∈ L, keyC c < keyC d) (hid : ∀ c ∈ l, ∀ d ∈ L, c.id ≠ d.id) (hnL : noCl L) : heardM (l ++ L) = heardM l ++ L ∧ noCl (l ++ L) ∧ ∀ c ∈ l ++ L, CV c := by
 have hn' : noCl (l ++ L) := fun x hx y hy e => by
  rcases List.mem_append.1 hx with hx | hx <;> rcases List.mem_append.1 hy with hy | hy
  ·exact hn x hx y hy e
  ·exact absurd e (hid x hx y hy)
  ·exact absurd e.symm (hid y hy x hx)
  ·exact hnL x hx y hy e
 have hv' : ∀ c ∈ l ++ L, CV c := fun c hc => by
  rcases List.mem_append.1 hc with hc | hc
  ·exact hv c hc
  ·exact hvL c hc
 refine ⟨heard_uniq hn' hv' ?_ (fun x => ?_), hn', hv'⟩
 ·unfold asc
  rw [List.pairwise_append]
  exact ⟨heard_asc l, hL, fun a ha b hb' => hb a (heard_sub l a ha) b hb'⟩
 ·rw [List.mem_append, List.mem_append, heard_mem hn hv]
theorem filt_all {H : List Cl} {m : Int} (h : ∀ c ∈ H, c.at' ≤ m) : (H.filter fun c => decide (c.at' ≤ m)) = H := List.filter_eq_self.2 fun c hc => decide_eq_true (h c hc)
def calm (hold m : Int) (S : HZ) : Prop := ∀ p ∈ S.ords, lapB hold m p.2 = false
theorem calm_lapse {S : HZ} (h : HInv S) (hold m : Int) : calm hold m (lapseM hold m S) := fun p hp => by
 unfold lapB
 cases h2 : (p.2.pc.st == 2)
 ·rfl
 ·have := held_lapse h hp (by simpa using h2)
  rw [Bool.true_and]; exact decide_eq_false (by omega)
theorem calm_ask {S : HZ} {hold m : Int} (hc : calm hold m S) (hh : 1 ≤ hold) {c : Cl} (ha : c.at' = m) : calm hold m (askM c S) := by
 have hnew : ∀ x : Od, x.asked = c.at' → lapB hold m x = false := fun x hx => by
  unfold lapB
  rw [hx, ha, decide_eq_false (by omega), Bool.and_false]
 unfold askM
 split
 ·exact hc
 ·split
  ·intro p hp
   rcases List.mem_append.1 hp with hp | hp
   ·exact hc p hp
   ·rw [List.mem_singleton] at hp; rw [hp]; exact hnew _ rfl
  ·intro p hp
   rcases List.mem_append.1 hp with hp | hp
   ·exact hc p hp
   ·rw [List.mem_singleton] at hp; rw [hp]; exact hnew _ rfl
theorem fold_asks {hold m : Int} (hh : 1 ≤ hold) : ∀ (L : List Cl) {S : HZ}, HInv S → calm hold m S → (∀ c ∈ L, CV c ∧ c.at' = m ∧ c.kind = 1) → L.foldl (hearM hold) S = L.foldl (fun S c => askM c S) S ∧ HInv (L.foldl (fun S c => askM c S) S) ∧ calm hold m (L.foldl (fun S c => askM c S) S)
 | [], S, hI, hc, _ => ⟨rfl, hI, hc⟩
 | c :: r, S, hI, hc, hL => by
  obtain ⟨h1, h2, h3⟩ := hL c (by simp)
  have hs : hearM hold S c = askM c S := by
   unfold hearM callM
   rw [h2, lapseM_id hI hc, if_pos h3]
  have hI2 : HInv (askM c S) := by
   have := hI.call h1
   unfold callM at this; rw [if_pos h3] at this; exact this
  rw [List.foldl_cons, List.foldl_cons, hs]
  exact fold_asks hh r hI2 (calm_ask hc hh h2) fun d hd => hL d (by simp [hd])
theorem after_asks {h : Hl} {l L : List Cl} {m : Int} (hh : 1 ≤ h.hold) (hn : noCl l) (hv : ∀ c ∈ l, CV c) (hm : ∀ c ∈ l, c.at' ≤ m) (hL : asc L) (hvL : ∀ c ∈ L, CV c ∧ c.at' = m ∧ c.kind = 1) (hb : ∀ c ∈ l, ∀ d ∈ L, c.id < d.id) (hnL : noCl L) :
  afterM h (l ++ L) m = L.foldl (fun S c => askM c S) (afterM h l m) ∧ noCl (l ++ L) ∧ ∀ c ∈ l ++ L, CV c := by
 obtain ⟨e1, e2, e3⟩ := heard_app hn hv hL (fun c hc => (hvL c hc).1) (fun c hc d hd => by
  have := hm c hc; have := (hvL d hd).2.1; have := hb c hc d hd
  unfold keyC; omega) (fun c hc d hd => by have := hb c hc d hd; omega) hnL
 refine ⟨?_, e2, e3⟩
 have hH : ∀ c ∈ heardM l, c.at' ≤ m := fun c hc => hm c (heard_sub l c hc)
 have hIT : HInv ((heardM l).foldl (hearM h.hold) (emptyM h.rows)) := HInv.fold _ (HInv.empty _) fun c hc => hv c (heard_sub l c hc)
 unfold afterM
 rw [e1, filt_all hH, filt_all (fun c hc => by
  rcases List.mem_append.1 hc with hc | hc
  ·exact hH c hc
  ·have := (hvL c hc).2.1; omega), List.foldl_append, ← fold_lapse hIT (Int.le_refl m) L (fun c hc => ⟨(hvL c hc).1, by have := (hvL c hc).2.1; omega⟩)]
 obtain ⟨f1, f2, f3⟩ := fold_asks hh L (hIT.lapse h.hold m) (calm_lapse hIT h.hold m) hvL
 rw [f1, lapseM_id f2 f3]
theorem chk_of {h : Hl} {l : List Cl} (ho : okH h = true) (h40 : l.length ≤ 40) (hv : ∀ c ∈ l, CV c) (hn : noCl l) : chkE h l = 0 := by
 unfold chkE
 rw [if_pos ho, if_pos]
 unfold okL
 rw [Bool.and_eq_true, Bool.and_eq_true, decide_eq_true_eq, List.all_eq_true, Bool.not_eq_true', noCl_iff]
 refine ⟨h40, fun c hc => ?_, hn⟩
 have := hv c hc
 have i1 : ∀ {n a b : Int}, a ≤ n → n ≤ b → inR n a b = true := fun h1 h2 => by unfold inR; rw [Bool.and_eq_true, decide_eq_true_eq, decide_eq_true_eq]; exact ⟨h1, h2⟩
 unfold okC
 rw [i1 this.i0 this.i1, i1 this.o0 this.o1, i1 this.a0 this.a1, Bool.true_and, Bool.true_and, Bool.true_and]
 unfold okS
 rcases this.kd with ⟨k, s1, s2⟩ | ⟨k, s⟩ | ⟨k, s⟩
 ·rw [if_pos k]; exact i1 s1 s2
 ·rw [if_neg (by omega), s, k]; rfl
 ·rw [if_neg (by omega), s, k]; rfl
theorem lis_of {h : Hl} {l : List Cl} {m : Int} (hc : chkE h l = 0) (h0 : 0 ≤ m) (h1 : m ≤ 9999) : lisE h l m = 0 := by
 unfold lisE
 rw [if_pos hc, if_pos]
 unfold inR; rw [Bool.and_eq_true, decide_eq_true_eq, decide_eq_true_eq]; exact ⟨h0, h1⟩
def isPl (s : List (List Int)) (z r i : Nat) : Prop := ∃ row, s[r]? = some row ∧ plcR row z (i : Int) = true
theorem plcR_fit {row : List Int} : ∀ {z i : Nat}, 1 ≤ z → plcR row z (i : Int) = true → i + z ≤ row.length
 | z + 1, i, _, h => by
  have := plcR_free (row := row) (z := z + 1) (s := (i : Int)) (by omega) h (i + z) (by omega) (by omega)
  have := (List.getElem?_eq_some_iff.1 this).1
  omega
theorem plcF_iff {row : List Int} {z r : Nat} : ∀ (k s : Nat) (q : Nat × Nat), q ∈ plcF row z r k s ↔ q.1 = r ∧ s ≤ q.2 ∧ q.2 < s + k ∧ plcR row z (q.2 : Int) = true
 | 0, s, q => by
  show q ∈ [] ↔ _
  constructor
  ·intro h; cases h
  ·intro h; omega
 | k + 1, s, q => by
  rw [plcF]
  split
  ·rename_i hp
   rw [List.mem_cons, plcF_iff k (s + 1) q]
   constructor
   ·rintro (e | ⟨a, b, c, d⟩)
    ·rw [e]; exact ⟨rfl, by omega, by omega, hp⟩
    ·exact ⟨a, by omega, by omega, d⟩
   ·rintro ⟨a, b, c, d⟩
    by_cases e : q.2 = s
    ·exact .inl (Prod.ext a e)
    ·exact .inr ⟨a, by omega, by omega, d⟩
  ·rename_i hp
   rw [plcF_iff k (s + 1) q]
   constructor
   ·rintro ⟨a, b, c, d⟩; exact ⟨a, by omega, by omega, d⟩
   ·rintro ⟨a, b, c, d⟩
    refine ⟨a, ?_, by omega, d⟩
    by_cases e : q.2 = s
    ·rw [e] at d; exact absurd d hp
    ·omega
theorem plcs_iff {z : Nat} (hz : 1 ≤ z) : ∀ (s : List (List Int)) (k : Nat) (q : Nat × Nat), q ∈ plcs z (idsM s) k ↔ k ≤ q.1 ∧ isPl s z (q.1 - k) q.2
 | [], k, q => by
  show q ∈ [] ↔ _
  constructor
  ·intro h; cases h
  ·rintro ⟨_, row, h, _⟩; cases h
 | r :: s, k, q => by
  show q ∈ plcF r z k (r.length + 1 - z) 0 ++ plcs z (idsM s) (k + 1) ↔ _
  rw [List.mem_append, plcF_iff, plcs_iff hz s (k + 1) q]
  constructor
  ·rintro (⟨a, b, c, d⟩ | ⟨a, row, b, c⟩)
   ·exact ⟨by omega, r, by rw [a, Nat.sub_self]; rfl, d⟩
   ·refine ⟨by omega, row, ?_, c⟩
    rw [show q.1 - k = (q.1 - (k + 1)) + 1 by omega, List.getElem?_cons_succ]; exact b
  ·rintro ⟨a, row, b, c⟩
   by_cases e : q.1 = k
   ·rw [e, Nat.sub_self, List.getElem?_cons_zero] at b
    cases b
    have := plcR_fit hz c
    exact .inl ⟨e, by omega, by omega, c⟩
   ·rw [show q.1 - k = (q.1 - (k + 1)) + 1 by omega, List.getElem?_cons_succ] at b
    exact .inr ⟨by omega, row, b, c⟩
theorem noGap_ids (s : List (List Int)) (z : Nat) (q : Nat × Nat) {row : List Int} (h : s[q.1]? = some row) : noGap (idsM s) z q = !gapR row (q.2 : Int) z := by
 unfold noGap rowAt
 rw [ids_get, h]; rfl
theorem bestS_some {s : List (List Int)} {z : Nat} (hz : 1 ≤ z) {q : Nat × Nat} (h : bestS s z = some q) : isPl s z q.1 q.2 ∧ (∀ row : List Int, s[q.1]? = some row → gapR row (q.2 : Int) z = true → ∀ (r i : Nat) (row' : List Int), s[r]? = some row' → plcR row' z (i : Int) = true → gapR row' (i : Int) z = true) := by
 have hm := bestM_mem h
 have h1 := (plcs_iff hz s 0 q).1 hm
 rw [Nat.sub_zero] at h1
 refine ⟨h1.2, fun row hr hg r i row' hr' hp' => ?_⟩
 unfold bestS bestM at h
 cases hf : (plcs z (idsM s) 0).find? (noGap (idsM s) z) with
 | some q' =>
  rw [hf] at h
  cases h
  have := List.find?_some hf
  rw [noGap_ids s z q hr, hg] at this
  cases this
 | none =>
  rw [List.find?_eq_none] at hf
  have hmm := (plcs_iff hz s 0 (r, i)).2 ⟨Nat.zero_le _, row', by rw [Nat.sub_zero]; exact hr', hp'⟩
  have := hf _ hmm
  rw [noGap_ids s z (r, i) hr'] at this
  simpa using this
theorem bestS_none {s : List (List Int)} {z : Nat} (hz : 1 ≤ z) : bestS s z = none ↔ ∀ r i, ¬isPl s z r i := by
 constructor
 ·intro h r i hp
  have hm := (plcs_iff hz s 0 (r, i)).2 ⟨Nat.zero_le _, by rw [Nat.sub_zero]; exact hp⟩
  unfold bestS bestM at h
  cases hf : (plcs z (idsM s) 0).find? (noGap (idsM s) z) with
  | some q' => rw [hf] at h; cases h
  | none =>
   rw [hf, Option.none_or, List.head?_eq_none_iff] at h
   rw [h] at hm; cases hm
 ·intro h
  cases hb : bestS s z with
  | none => rfl
  | some q => exact absurd (bestS_some hz hb).1 (h q.1 q.2)
end Go.Ab.T
end
