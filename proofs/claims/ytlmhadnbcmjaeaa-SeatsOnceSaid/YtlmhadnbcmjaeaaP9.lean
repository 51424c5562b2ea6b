/-
 A part of the proofs over this seat.
 (The texts KhK25 KhK26 KhM7, one behind the other.)
-/
import Derived.Test.YtlmhadnbcmjaeaaP8
set_option linter.unusedSimpArgs false
set_option linter.unusedVariables false
set_option linter.unusedSectionVars false
section
namespace Go.Ab.T
set_option maxRecDepth 8000
set_option maxHeartbeats 4000000
def plcM (S : HZ) (n : Int) : Pc := match lkP S.ords n with | some x => x.pc | none => ⟨0, -1, -1, 0⟩
theorem state_W {fr : List (Nat × Blk)} {a : Nat} {rv : AV} {hold : Int} {S : HZ} {bl : List Blk} (h : HS fr a rv hold S bl) (n : Int) (tk : List (Nat × Nat)) (K : AV → Mem → Prop)
  (hK : ∀ ext, K (encPc (plcM S n)) ⟨bl ++ ext, tk⟩) : WR ft (.f 36) [.ptr a 0 0, I64 n] ⟨bl, tk⟩ K := by
 rw [WR_f ft36 rfl]
 simp only [c36, r36]
 obtain ⟨mid, rows, ords, vn, hw, hv, e1, e2⟩ := h.ex
 obtain ⟨t, ha⟩ := hw.ha
 have hm := hw.hm
 have hget := mget_im_ok .nilp (ords.map kvO) n
 rw [ilook_kv] at hget
 have ha' := fun l => gB ha l
 have hm' := fun l => gB hm l
 unfold plcM at hK
 rw [← e2] at hK
 cases hl : lkO ords n with
 | none =>
  rw [hl] at hget
  rw [lk_none hl] at hK
  simp only [Option.map_none, Option.getD_none, Option.isSome_none] at hget
  simp only [go_sem, Nat.reduceEqDiff, Nat.reduceAdd, Nat.reduceLT, Nat.reduceLeDiff, reduceIte, ha', hm', hget, gA0, sA0, List.getElem?_cons_zero, List.set_cons_zero]
  exact hK _
 | some p =>
  obtain ⟨b, x⟩ := p
  rw [hl] at hget
  rw [lk_some hl] at hK
  simp only [Option.map_some, Option.getD_some, Option.isSome_some] at hget
  have hb := hw.ho _ (lkO_mem hl)
  dsimp only at hb
  have hb' := fun l => gB hb l
  simp only [go_sem, Nat.reduceEqDiff, Nat.reduceAdd, Nat.reduceLT, Nat.reduceLeDiff, reduceIte, ha', hm', hb', hget, gA0, sA0, List.getElem?_cons_zero, List.set_cons_zero, PcEta, PcCells]
  exact hK _
def ordE (h : Hl) (l : List Cl) (m n : Int) : Int := if lisE h l m = 0 then (if inR n 0 99 = true then 0 else 1) else lisE h l m
def ordM (h : Hl) (l : List Cl) (m n : Int) : Pc := if ordE h l m n = 0 then plcM (afterM h l m) n else ⟨0, 0, 0, 0⟩
theorem wPc (p : Pc) (a b c d : Int) : writeCells (encPc p) 0 [I64 a, I64 b, I64 c, I64 d] = some (encPc ⟨a, b, c, d⟩) := rfl
theorem Order_ok (h : Hl) (l : List Cl) (m n : Int) : RV ft 14 [encH h, encCs l, I64 m, I64 n] (.tup [encPc (ordM h l m n), I64 (ordE h l m n)]) := by
 refine RV_of ft14 rfl ?_
 simp only [c14, r14]
 have zPc : AV.agg [I64 0, I64 0, I64 0, I64 0] = encPc ⟨0, 0, 0, 0⟩ := rfl
 simp only [go_sem, Nat.reduceEqDiff, Nat.reduceAdd, Nat.reduceLT, Nat.reduceLeDiff, reduceIte, HEta, WB34]
 show WR ft (.f 34) _ _ _
 refine listen_W h l m _ _ (fun he bl' tk => ?_) fun he v bl' tk hp => ?_
 ·have hne : (lisE h l m != 0) = true := by simpa using he
  have hE : ordE h l m n = lisE h l m := by unfold ordE; rw [if_neg he]
  have hM : ordM h l m n = ⟨0, 0, 0, 0⟩ := by unfold ordM; rw [hE, if_neg he]
  rw [hE, hM]
  simp only [go_sem, Nat.reduceEqDiff, Nat.reduceAdd, Nat.reduceLT, Nat.reduceLeDiff, reduceIte, List.cons_append, List.nil_append, hne]
  rfl
 ·have bnz : ((0 : Int) != 0) = false := rfl
  have hI := isId_ok n
  have hB := hp.box
  obtain ⟨a, mid, rows, ords, vn, t, ev, hva, hw, hv, _⟩ := hp
  obtain ⟨hvc, hvs⟩ : vn.cells = [vn] ∧ vn.solid = true := by
   rcases hv with ⟨_, e⟩ | ⟨_, id, e, _⟩ <;> rw [e] <;> exact ⟨rfl, rfl⟩
  subst ev
  have f1 : bl'[1]? = some (.live [encPc ⟨0, 0, 0, 0⟩] 4) := (hw.fr' (1, _) (mem_frs rfl)).1
  have f1' := fun l => gB f1 l
  have hlt2 : ∀ l, 1 < (bl' ++ l).length := fun l => (List.getElem?_eq_some_iff.1 (f1' l)).1
  unfold ordE ordM ordE
  rw [if_pos he]
  cases hn : inR n 0 99
  ·rw [hn] at hI
   simp only [go_sem, Nat.reduceEqDiff, Nat.reduceAdd, Nat.reduceLT, Nat.reduceLeDiff, reduceIte, bnz, WB35, WVH_eq hI, true_and, f1', hvc, hvs, wPc, List.getElem?_set_self (hlt2 _), gA0, sA0, List.getElem?_cons_zero, List.set_cons_zero]
   rfl
  ·rw [hn] at hI
   simp only [go_sem, Nat.reduceEqDiff, Nat.reduceAdd, Nat.reduceLT, Nat.reduceLeDiff, reduceIte, bnz, WB35, WVH_eq hI, true_and, gA0, sA0, List.getElem?_cons_zero, List.set_cons_zero, hvc, hvs, WB36]
   show WR ft (.f 36) _ _ _
   refine state_W hB n tk _ fun ext => ?_
   simp only [go_sem, Nat.reduceEqDiff, Nat.reduceAdd, Nat.reduceLT, Nat.reduceLeDiff, reduceIte, List.append_assoc, f1', wPc, PcCells, List.getElem?_set_self (hlt2 _)]
   rfl
end Go.Ab.T
end
section
namespace Go.Ab.T
set_option maxRecDepth 8000
set_option maxHeartbeats 4000000
def encRows (s : List (List Int)) : AV := .sl (s.map encIs) .unk
def mapM (h : Hl) (l : List Cl) (m : Int) : List (List Int) := if lisE h l m = 0 then (afterM h l m).seats else []
theorem snRefs {rows : List Rw} {bl : List Blk} (hr : ∀ p ∈ rows, bl[p.1]? = some (.live (iL p.2) 1)) (tk : List (Nat × Nat)) (t : Tk) (q : Nat) : Ab.snap ⟨bl, tk⟩ (q + 4) (.sl (rows.map refR) t) = encRows (rows.map Prod.snd) := by
 show AV.sl ((rows.map refR).map (Ab.snap _ (q + 3))) .unk = _
 unfold encRows
 rw [List.map_map, List.map_map]
 congr 1
 apply List.map_congr_left
 intro p hp
 exact snap_row (m := ⟨bl, tk⟩) (hr p hp) q
theorem Map_ok (h : Hl) (l : List Cl) (m : Int) : RV ft 15 [encH h, encCs l, I64 m] (.tup [encRows (mapM h l m), I64 (lisE h l m)]) := by
 refine RV_of ft15 rfl ?_
 simp only [c15, r15]
 simp only [go_sem, Nat.reduceEqDiff, Nat.reduceAdd, Nat.reduceLT, Nat.reduceLeDiff, reduceIte, HEta, WB34]
 show WR ft (.f 34) _ _ _
 refine listen_W h l m _ _ (fun he bl' tk => ?_) fun he v bl' tk hp => ?_
 ·have hM : mapM h l m = [] := by unfold mapM; rw [if_neg he]
  rw [hM]
  simp only [go_sem, Nat.reduceEqDiff, Nat.reduceAdd, Nat.reduceLT, Nat.reduceLeDiff, reduceIte, gA0, List.cons_append, List.nil_append, List.getElem?_cons_zero]
  rfl
 ·obtain ⟨a, mid, rows, ords, vn, t, ev, hva, hw, hv, hsd, _⟩ := hp
  obtain ⟨hvc, hvs⟩ : vn.cells = [vn] ∧ vn.solid = true := by
   rcases hv with ⟨_, e⟩ | ⟨_, id, e, _⟩ <;> rw [e] <;> exact ⟨rfl, rfl⟩
  subst ev
  have hM : mapM h l m = rows.map Prod.snd := by unfold mapM; rw [if_pos he, hsd]
  rw [he, hM]
  simp only [go_sem, Nat.reduceEqDiff, Nat.reduceAdd, Nat.reduceLT, Nat.reduceLeDiff, reduceIte, gA0, sA0, hvc, hvs, List.getElem?_cons_zero, List.set_cons_zero]
  rw [← snRefs (bl := bl' ++ [Blk.live [.agg [encIs h.rows, I64 h.hold, .sl (rows.map refR) t, .mp mid, vn]] 5]) (fun p hp => gB (hw.hr p hp) _) tk t 7]
  rfl
theorem HB.fold {hold : Int} : ∀ (l : List Cl) {S : HZ} {N : Nat}, HB S N → (∀ c ∈ l, CV c) → HB (l.foldl (hearM hold) S) (N + l.length)
 | [], _, _, h, _ => h
 | c :: r, S, N, h, hc => by
  have := HB.fold (hold := hold) r (h.hear (hc c (by simp)) hold) fun x hx => hc x (by simp [hx])
  rw [List.foldl_cons]
  exact ⟨this.inv, this.len, this.row, by rw [List.length_cons]; have := this.vn; omega⟩
theorem lisE_ok {h : Hl} {l : List Cl} {m : Int} (he : lisE h l m = 0) : chkE h l = 0 ∧ 0 ≤ m ∧ m ≤ 9999 := by
 unfold lisE at he
 by_cases hc : chkE h l = 0
 ·rw [if_pos hc] at he
  by_cases hm : inR m 0 9999 = true
  ·obtain ⟨a, b⟩ := inR_iff hm
   exact ⟨hc, a, b⟩
  ·rw [if_neg hm] at he; cases he
 ·rw [if_neg hc] at he; exact absurd he hc
theorem after_HB {h : Hl} {l : List Cl} {m : Int} (he : lisE h l m = 0) : HB (afterM h l m) 40 := by
 obtain ⟨hc, _⟩ := lisE_ok he
 obtain ⟨ho, h40, hcv, _⟩ := chk_ok hc
 have hf := HB.fold (hold := h.hold) ((heardM l).filter fun c => decide (c.at' ≤ m)) (HB.empty ho) fun c hc => hcv c (heard_sub l c (List.mem_filter.1 hc).1)
 have hb := hf.lapse h.hold m
 refine ⟨hb.inv, hb.len, hb.row, Nat.le_trans hb.vn ?_⟩
 have h1 : ((heardM l).filter fun c => decide (c.at' ≤ m)).length ≤ (heardM l).length := List.length_filter_le _ _
 have h2 := heard_len (l := l)
 omega
end Go.Ab.T
end
section
namespace Go.Ab.T
def lensM (s : List (List Int)) : List Int := s.map fun r => (r.length : Int)
theorem lens_kill (q : Int → Bool) (st : Int) (S : HZ) : lensM (killM q st S).seats = lensM S.seats := by
 show lensM (offM q S.seats) = _
 unfold lensM offM
 rw [List.map_map]
 apply List.map_congr_left
 intro r _
 simp only [Function.comp]
 rw [offR_len]
theorem lens_set (s : List (List Int)) (r : Nat) (row : List Int) (hl : ∀ x, s[r]? = some x → row.length = x.length) : lensM (s.set r row) = lensM s := by
 unfold lensM
 apply List.ext_getElem?
 intro i
 rw [List.getElem?_map, List.getElem?_map, List.getElem?_set]
 by_cases hi : r = i
 ·subst hi
  rw [if_pos rfl]
  by_cases hr : r < s.length
  ·rw [if_pos hr, List.getElem?_eq_getElem hr, Option.map_some, Option.map_some, hl _ (List.getElem?_eq_getElem hr)]
  ·rw [if_neg hr, List.getElem?_eq_none (by omega)]
 ·rw [if_neg hi]
theorem lens_call (c : Cl) (S : HZ) : lensM (callM c S).seats = lensM S.seats := by
 unfold callM askM payM dropM
 split
 ·split
  ·rfl
  ·split
   ·rfl
   ·unfold seatM
    refine lens_set _ _ _ fun x hx => ?_
    rw [fillR_len, List.getD_eq_getElem?_getD, hx]; rfl
 ·split
  ·split
   ·split <;> rfl
   ·rfl
  ·split
   ·split
    ·split
     ·exact lens_kill _ _ _
     ·rfl
    ·rfl
   ·rfl
theorem lens_hear (hold : Int) (S : HZ) (c : Cl) : lensM (hearM hold S c).seats = lensM S.seats := by
 unfold hearM; rw [lens_call]; exact lens_kill _ _ _
theorem lens_fold (hold : Int) : ∀ (l : List Cl) (S : HZ), lensM (l.foldl (hearM hold) S).seats = lensM S.seats
 | [], _ => rfl
 | c :: r, S => by rw [List.foldl_cons, lens_fold hold r, lens_hear]
theorem lens_after {h : Hl} (hr : ∀ x ∈ h.rows, 1 ≤ x ∧ x ≤ 12) (l : List Cl) (m : Int) : lensM (afterM h l m).seats = h.rows := by
 unfold afterM lapseM
 rw [lens_kill, lens_fold]
 unfold lensM emptyM
 rw [List.map_map]
 conv => rhs; rw [← List.map_id h.rows]
 apply List.map_congr_left
 intro x hx
 have := hr x hx
 simp only [Function.comp, List.length_replicate, id]
 omega
def ownF (p : Pc) (k j : Nat) : Int := if (p.st = 2 ∨ p.st = 3) then (if p.row < k then p.size else if p.row = k then min (max ((j : Int) - p.seat) 0) p.size else 0) else 0
theorem plcM_spec {S : HZ} (h : HInv S) (n : Int) : (plcM S n = ⟨0, -1, -1, 0⟩ ∧ lkP S.ords n = none) ∨ ∃ x, (n, x) ∈ S.ords ∧ lkP S.ords n = some x ∧ plcM S n = x.pc := by
 unfold plcM
 cases hl : lkP S.ords n with
 | none => exact .inl ⟨rfl, rfl⟩
 | some x => exact .inr ⟨x, lkP_mem hl, rfl, rfl⟩
theorem plcM_of {S : HZ} (h : HInv S) {n : Int} {x : Od} (hx : (n, x) ∈ S.ords) : plcM S n = x.pc := by
 unfold plcM; rw [lkP_of h.nd hx]
theorem hasB_iff (x : Od) : hasB x = true ↔ (x.pc.st = 2 ∨ x.pc.st = 3) := by
 unfold hasB; rw [Bool.or_eq_true, beq_iff_eq, beq_iff_eq]
theorem plc_has {S : HZ} (h : HInv S) {n : Int} (hp : (plcM S n).st = 2 ∨ (plcM S n).st = 3) : ∃ (r s z : Nat) (row : List Int), (plcM S n).row = r ∧ (plcM S n).seat = s ∧ (plcM S n).size = z ∧ S.seats[r]? = some row ∧ s + z ≤ row.length := by
 rcases plcM_spec h n with ⟨e, _⟩ | ⟨x, hx, _, e⟩
 ·rw [e] at hp; rcases hp with hp | hp <;> cases hp
 ·rw [e] at hp ⊢; exact h.inn _ hx ((hasB_iff x).2 hp)
theorem plc_not {S : HZ} (h : HInv S) {n : Int} (hp : ¬((plcM S n).st = 2 ∨ (plcM S n).st = 3)) : (plcM S n).row = -1 ∧ (plcM S n).seat = -1 := by
 rcases plcM_spec h n with ⟨e, _⟩ | ⟨x, hx, _, e⟩
 ·rw [e]; exact ⟨rfl, rfl⟩
 ·rw [e] at hp ⊢
  refine h.out _ hx ?_
  cases hb : hasB x
  ·rfl
  ·exact absurd ((hasB_iff x).1 hb) hp
theorem plc_seat {S : HZ} (h : HInv S) {n : Int} (hp : (plcM S n).st = 2 ∨ (plcM S n).st = 3) {r i : Nat} {row : List Int} (hr : S.seats[r]? = some row) (hi : i < row.length) : (row[i]? = some n ↔ ((plcM S n).row = r ∧ (plcM S n).seat ≤ i ∧ (i : Int) < (plcM S n).seat + (plcM S n).size)) := by
 rcases plcM_spec h n with ⟨e, _⟩ | ⟨x, hx, _, e⟩
 ·rw [e] at hp; rcases hp with hp | hp <;> cases hp
 ·rw [e] at hp ⊢; exact h.iff _ hx ((hasB_iff x).2 hp) r row i hr hi
theorem seat_has {S : HZ} (h : HInv S) {n : Int} {r i : Nat} {row : List Int} (hr : S.seats[r]? = some row) (hi : row[i]? = some n) (hn : n ≠ -1) : ((plcM S n).st = 2 ∨ (plcM S n).st = 3) ∧ 0 ≤ n ∧ n ≤ 99 := by
 rcases h.own r row n hr (List.mem_of_getElem? hi) with e | ⟨x, hx, hb⟩
 ·exact absurd e hn
 ·rw [plcM_of h hx]; exact ⟨(hasB_iff x).1 hb, h.pos _ hx, h.top _ hx⟩
end Go.Ab.T
end
