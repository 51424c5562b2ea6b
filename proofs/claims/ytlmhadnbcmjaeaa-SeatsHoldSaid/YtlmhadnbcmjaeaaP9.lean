/-
 A part of the proofs over this seat.
 (The texts KhK25 KhK26 KhM7 KhM8, one behind the other.)
-/
import Derived.Test.YtlmhadnbcmjaeaaP8
set_option linter.unusedSimpArgs false
set_option linter.unusedVariables false
set_option linter.unusedSectionVars false
section
namespace Go.Ab.T
set_option maxRecDepth 8000
set_option maxHeartbeats 4000000
def plcM (S : HZ) (n : Int) : Pc := match lkP S.ords n with | some x => x.pc | none => ⟨0, -1, -1, 0⟩
theorem state_W {fr : List (Nat × Blk)} {a : Nat} {rv : AV} {hold : Int} {S : HZ} {bl : List Blk} (h : HS fr a rv hold S bl) (n : Int) (tk : List (Nat × Nat)) (K : AV → Mem → Prop)
  (hK : ∀ ext, K (encPc (plcM S n)) ⟨bl ++ ext, tk⟩) : WR ft (.f 36) [.ptr a 0 0, I64 n] ⟨bl, tk⟩ K := by
 rw [WR_f ft36 rfl]
 simp only [c36, r36]
 obtain ⟨mid, rows, ords, vn, hw, hv, e1, e2⟩ := h.ex
 obtain ⟨t, ha⟩ := hw.ha
 have hm := hw.hm
 have hget := mget_im_ok .nilp (ords.map kvO) n
 rw [ilook_kv] at hget
 have ha' := fun l => gB ha l
 have hm' := fun l => gB hm l
 unfold plcM at hK
 rw [← e2] at hK
 cases hl : lkO ords n with
 | none =>
  rw [hl] at hget
  rw [lk_none hl] at hK
  simp only [Option.map_none, Option.getD_none, Option.isSome_none] at hget
  simp only [go_sem, Nat.reduceEqDiff, Nat.reduceAdd, Nat.reduceLT, Nat.reduceLeDiff, reduceIte, ha', hm', hget, gA0, sA0, List.getElem?_cons_zero, List.set_cons_zero]
  exact hK _
 | some p =>
  obtain ⟨b, x⟩ := p
  rw [hl] at hget
  rw [lk_some hl] at hK
  simp only [Option.map_some, Option.getD_some, Option.isSome_some] at hget
  have hb := hw.ho _ (lkO_mem hl)
  dsimp only at hb
  have hb' := fun l => gB hb l
  simp only [go_sem, Nat.reduceEqDiff, Nat.reduceAdd, Nat.reduceLT, Nat.reduceLeDiff, reduceIte, ha', hm', hb', hget, gA0, sA0, List.getElem?_cons_zero, List.set_cons_zero, PcEta, PcCells]
  exact hK _
def ordE (h : Hl) (l : List Cl) (m n : Int) : Int := if lisE h l m = 0 then (if inR n 0 99 = true then 0 else 1) else lisE h l m
def ordM (h : Hl) (l : List Cl) (m n : Int) : Pc := if ordE h l m n = 0 then plcM (afterM h l m) n else ⟨0, 0, 0, 0⟩
theorem wPc (p : Pc) (a b c d : Int) : writeCells (encPc p) 0 [I64 a, I64 b, I64 c, I64 d] = some (encPc ⟨a, b, c, d⟩) := rfl
theorem Order_ok (h : Hl) (l : List Cl) (m n : Int) : RV ft 14 [encH h, encCs l, I64 m, I64 n] (.tup [encPc (ordM h l m n), I64 (ordE h l m n)]) := by
 refine RV_of ft14 rfl ?_
 simp only [c14, r14]
 have zPc : AV.agg [I64 0, I64 0, I64 0, I64 0] = encPc ⟨0, 0, 0, 0⟩ := rfl
 simp only [go_sem, Nat.reduceEqDiff, Nat.reduceAdd, Nat.reduceLT, Nat.reduceLeDiff, reduceIte, HEta, WB34]
 show WR ft (.f 34) _ _ _
 refine listen_W h l m _ _ (fun he bl' tk => ?_) fun he v bl' tk hp => ?_
 ·have hne : (lisE h l m != 0) = true := by simpa using he
  have hE : ordE h l m n = lisE h l m := by unfold ordE; rw [if_neg he]
  have hM : ordM h l m n = ⟨0, 0, 0, 0⟩ := by unfold ordM; rw [hE, if_neg he]
  rw [hE, hM]
  simp only [go_sem, Nat.reduceEqDiff, Nat.reduceAdd, Nat.reduceLT, Nat.reduceLeDiff, reduceIte, List.cons_append, List.nil_append, hne]
  rfl
 ·have bnz : ((0 : Int) != 0) = false := rfl
  have hI := isId_ok n
  have hB := hp.box
  obtain ⟨a, mid, rows, ords, vn, t, ev, hva, hw, hv, _⟩ := hp
  obtain ⟨hvc, hvs⟩ : vn.cells = [vn] ∧ vn.solid = true := by
   rcases hv with ⟨_, e⟩ | ⟨_, id, e, _⟩ <;> rw [e] <;> exact ⟨rfl, rfl⟩
  subst ev
  have f1 : bl'[1]? = some (.live [encPc ⟨0, 0, 0, 0⟩] 4) := (hw.fr' (1, _) (mem_frs rfl)).1
  have f1' := fun l => gB f1 l
  have hlt2 : ∀ l, 1 < (bl' ++ l).length := fun l => (List.getElem?_eq_some_iff.1 (f1' l)).1
  unfold ordE ordM ordE
  rw [if_pos he]
  cases hn : inR n 0 99
  ·rw [hn] at hI
   simp only [go_sem, Nat.reduceEqDiff, Nat.reduceAdd, Nat.reduceLT, Nat.reduceLeDiff, reduceIte, bnz, WB35, WVH_eq hI, true_and, f1', hvc, hvs, wPc, List.getElem?_set_self (hlt2 _), gA0, sA0, List.getElem?_cons_zero, List.set_cons_zero]
   rfl
  ·rw [hn] at hI
   simp only [go_sem, Nat.reduceEqDiff, Nat.reduceAdd, Nat.reduceLT, Nat.reduceLeDiff, reduceIte, bnz, WB35, WVH_eq hI, true_and, gA0, sA0, List.getElem?_cons_zero, List.set_cons_zero, hvc, hvs, WB36]
   show WR ft (.f 36) _ _ _
   refine state_W hB n tk _ fun ext => ?_
   simp only [go_sem, Nat.reduceEqDiff, Nat.reduceAdd, Nat.reduceLT, Nat.reduceLeDiff, reduceIte, List.append_assoc, f1', wPc, PcCells, List.getElem?_set_self (hlt2 _)]
   rfl
end Go.Ab.T
end
section
namespace Go.Ab.T
set_option maxRecDepth 8000
set_option maxHeartbeats 4000000
theorem HB.fold {hold : Int} : ∀ (l : List Cl) {S : HZ} {N : Nat}, HB S N → (∀ c ∈ l, CV c) → HB (l.foldl (hearM hold) S) (N + l.length)
 | [], _, _, h, _ => h
 | c :: r, S, N, h, hc => by
  have := HB.fold (hold := hold) r (h.hear (hc c (by simp)) hold) fun x hx => hc x (by simp [hx])
  rw [List.foldl_cons]
  exact ⟨this.inv, this.len, this.row, by rw [List.length_cons]; have := this.vn; omega⟩
theorem lisE_ok {h : Hl} {l : List Cl} {m : Int} (he : lisE h l m = 0) : chkE h l = 0 ∧ 0 ≤ m ∧ m ≤ 9999 := by
 unfold lisE at he
 by_cases hc : chkE h l = 0
 ·rw [if_pos hc] at he
  by_cases hm : inR m 0 9999 = true
  ·obtain ⟨a, b⟩ := inR_iff hm
   exact ⟨hc, a, b⟩
  ·rw [if_neg hm] at he; cases he
 ·rw [if_neg hc] at he; exact absurd he hc
theorem after_HB {h : Hl} {l : List Cl} {m : Int} (he : lisE h l m = 0) : HB (afterM h l m) 40 := by
 obtain ⟨hc, _⟩ := lisE_ok he
 obtain ⟨ho, h40, hcv, _⟩ := chk_ok hc
 have hf := HB.fold (hold := h.hold) ((heardM l).filter fun c => decide (c.at' ≤ m)) (HB.empty ho) fun c hc => hcv c (heard_sub l c (List.mem_filter.1 hc).1)
 have hb := hf.lapse h.hold m
 refine ⟨hb.inv, hb.len, hb.row, Nat.le_trans hb.vn ?_⟩
 have h1 : ((heardM l).filter fun c => decide (c.at' ≤ m)).length ≤ (heardM l).length := List.length_filter_le _ _
 have h2 := heard_len (l := l)
 omega
end Go.Ab.T
end
section
namespace Go.Ab.T
def lensM (s : List (List Int)) : List Int := s.map fun r => (r.length : Int)
theorem lens_kill (q : Int → Bool) (st : Int) (S : HZ) : lensM (killM q st S).seats = lensM S.seats := by
 show lensM (offM q S.seats) = _
 unfold lensM offM
 rw [List.map_map]
 apply List.map_congr_left
 intro r _
 simp only [Function.comp]
 rw [offR_len]
theorem lens_set (s : List (List Int)) (r : Nat) (row : List Int) (hl : ∀ x, s[r]? = some x → row.length = x.length) : lensM (s.set r row) = lensM s := by
 unfold lensM
 apply List.ext_getElem?
 intro i
 rw [List.getElem?_map, List.getElem?_map, List.getElem?_set]
 by_cases hi : r = i
 ·subst hi
  rw [if_pos rfl]
  by_cases hr : r < s.length
  ·rw [if_pos hr, List.getElem?_eq_getElem hr, Option.map_some, Option.map_some, hl _ (List.getElem?_eq_getElem hr)]
  ·rw [if_neg hr, List.getElem?_eq_none (by omega)]
 ·rw [if_neg hi]
theorem lens_call (c : Cl) (S : HZ) : lensM (callM c S).seats = lensM S.seats := by
 unfold callM askM payM dropM
 split
 ·split
  ·rfl
  ·split
   ·rfl
   ·unfold seatM
    refine lens_set _ _ _ fun x hx => ?_
    rw [fillR_len, List.getD_eq_getElem?_getD, hx]; rfl
 ·split
  ·split
   ·split <;> rfl
   ·rfl
  ·split
   ·split
    ·split
     ·exact lens_kill _ _ _
     ·rfl
    ·rfl
   ·rfl
theorem lens_hear (hold : Int) (S : HZ) (c : Cl) : lensM (hearM hold S c).seats = lensM S.seats := by
 unfold hearM; rw [lens_call]; exact lens_kill _ _ _
theorem lens_fold (hold : Int) : ∀ (l : List Cl) (S : HZ), lensM (l.foldl (hearM hold) S).seats = lensM S.seats
 | [], _ => rfl
 | c :: r, S => by rw [List.foldl_cons, lens_fold hold r, lens_hear]
theorem lens_after {h : Hl} (hr : ∀ x ∈ h.rows, 1 ≤ x ∧ x ≤ 12) (l : List Cl) (m : Int) : lensM (afterM h l m).seats = h.rows := by
 unfold afterM lapseM
 rw [lens_kill, lens_fold]
 unfold lensM emptyM
 rw [List.map_map]
 conv => rhs; rw [← List.map_id h.rows]
 apply List.map_congr_left
 intro x hx
 have := hr x hx
 simp only [Function.comp, List.length_replicate, id]
 omega
theorem plcM_spec {S : HZ} (h : HInv S) (n : Int) : (plcM S n = ⟨0, -1, -1, 0⟩ ∧ lkP S.ords n = none) ∨ ∃ x, (n, x) ∈ S.ords ∧ lkP S.ords n = some x ∧ plcM S n = x.pc := by
 unfold plcM
 cases hl : lkP S.ords n with
 | none => exact .inl ⟨rfl, rfl⟩
 | some x => exact .inr ⟨x, lkP_mem hl, rfl, rfl⟩
theorem plcM_of {S : HZ} (h : HInv S) {n : Int} {x : Od} (hx : (n, x) ∈ S.ords) : plcM S n = x.pc := by
 unfold plcM; rw [lkP_of h.nd hx]
theorem hasB_iff (x : Od) : hasB x = true ↔ (x.pc.st = 2 ∨ x.pc.st = 3) := by
 unfold hasB; rw [Bool.or_eq_true, beq_iff_eq, beq_iff_eq]
end Go.Ab.T
end
section
namespace Go.Ab.T
theorem asc_split : ∀ {H : List Cl} {m m' : Int}, asc H → (∀ c ∈ H, CV c) → m ≤ m' → (H.filter fun c => decide (c.at' ≤ m')) = (H.filter fun c => decide (c.at' ≤ m)) ++ H.filter fun c => decide (m < c.at') && decide (c.at' ≤ m')
 | [], m, m', _, _, _ => rfl
 | c :: r, m, m', h, hv, hm => by
  unfold asc at h
  rw [List.pairwise_cons] at h
  have ih := asc_split h.2 (fun c hc => hv c (by simp [hc])) hm
  have hc := hv c (by simp)
  by_cases h1 : c.at' ≤ m
  ·rw [List.filter_cons_of_pos (by simp; omega), List.filter_cons_of_pos (by simp; omega), List.filter_cons_of_neg (by simp; omega), ih]; rfl
  ·have hnone : (r.filter fun c => decide (c.at' ≤ m)) = [] := by
    rw [List.filter_eq_nil_iff]
    intro d hd e
    have hk := h.1 d hd
    have h2 := hv d (by simp [hd])
    have := hc.i0; have := hc.i1; have := h2.i0; have := h2.i1
    unfold keyC at hk
    have e' := of_decide_eq_true e
    omega
   rw [hnone, List.nil_append] at ih
   by_cases h2 : c.at' ≤ m'
   ·rw [List.filter_cons_of_pos (by simp; omega), List.filter_cons_of_neg (by simp; omega), List.filter_cons_of_pos (by simp; omega), hnone, ih]; rfl
   ·rw [List.filter_cons_of_neg (by simp; omega), List.filter_cons_of_neg (by simp; omega), List.filter_cons_of_neg (by simp; omega), hnone, ih]; rfl
theorem fold_lapse {hold m m' : Int} {T : HZ} (hT : HInv T) (hm : m ≤ m') : ∀ (l : List Cl), (∀ c ∈ l, CV c ∧ m ≤ c.at') → lapseM hold m' (l.foldl (hearM hold) (lapseM hold m T)) = lapseM hold m' (l.foldl (hearM hold) T)
 | [], _ => lapse_lapse hT hm
 | c :: r, hc => by
  rw [List.foldl_cons, List.foldl_cons]
  have : hearM hold (lapseM hold m T) c = hearM hold T c := by
   unfold hearM
   rw [lapse_lapse hT (hc c (by simp)).2]
  rw [this]
theorem after_later {h : Hl} {l : List Cl} {m m' : Int} (hl : ∀ c ∈ l, CV c) (hm : m ≤ m') : afterM h l m' = lapseM h.hold m' (((heardM l).filter fun c => decide (m < c.at') && decide (c.at' ≤ m')).foldl (hearM h.hold) (afterM h l m)) := by
 unfold afterM
 have hv : ∀ c ∈ heardM l, CV c := fun c hc => hl c (heard_sub l c hc)
 rw [asc_split (heard_asc l) hv hm, List.foldl_append]
 refine (fold_lapse (HInv.fold _ (HInv.empty _) fun c hc => hv c (List.mem_filter.1 hc).1) hm _ fun c hc => ?_).symm
 have h1 := List.mem_filter.1 hc
 have h2 := h1.2
 rw [Bool.and_eq_true, decide_eq_true_eq, decide_eq_true_eq] at h2
 exact ⟨hv c h1.1, by omega⟩
structure goes (x y : Od) : Prop where
 sz : y.pc.size = x.pc.size
 as : y.asked = x.asked
 held : x.pc.st = 2 → y = x ∨ y.pc.st = 3 ∨ y.pc.st = 4 ∨ y.pc.st = 5
 sold : x.pc.st = 3 → y = x ∨ y = outO x 5
 gone : x.pc.st ≠ 2 → x.pc.st ≠ 3 → y = x
theorem goes.refl (x : Od) : goes x x := ⟨rfl, rfl, fun _ => .inl rfl, fun _ => .inl rfl, fun _ _ => rfl⟩
theorem goes.trans {x y z : Od} (h1 : goes x y) (h2 : goes y z) : goes x z := by
 refine ⟨h2.sz.trans h1.sz, h2.as.trans h1.as, fun hx => ?_, fun hx => ?_, fun hx hx' => ?_⟩
 ·rcases h1.held hx with e | e | e | e
  ·rw [e] at h2; exact h2.held hx
  ·rcases h2.sold e with e2 | e2
   ·rw [e2]; exact .inr (.inl e)
   ·rw [e2]; exact .inr (.inr (.inr rfl))
  ·rw [h2.gone (by omega) (by omega)]; exact .inr (.inr (.inl e))
  ·rw [h2.gone (by omega) (by omega)]; exact .inr (.inr (.inr e))
 ·rcases h1.sold hx with e | e
  ·rw [e] at h2; exact h2.sold hx
  ·rw [h2.gone (by rw [e]; exact (by decide : (5 : Int) ≠ 2)) (by rw [e]; exact (by decide : (5 : Int) ≠ 3)), e]; exact .inr rfl
 ·rw [h1.gone hx hx'] at h2; exact h2.gone hx hx'
theorem goes_lapse {S : HZ} (h : HInv S) {hold m : Int} {n : Int} {x : Od} (hx : (n, x) ∈ S.ords) : ∃ y, (n, y) ∈ (lapseM hold m S).ords ∧ goes x y := by
 by_cases hq : lapB hold m x = true
 ·refine ⟨outO x 4, List.mem_map.2 ⟨_, hx, by rw [lapP_of h hx, if_pos hq]⟩, rfl, rfl, fun _ => .inr (.inr (.inl rfl)), fun e => ?_, fun e _ => ?_⟩ <;> (unfold lapB at hq; rw [Bool.and_eq_true, beq_iff_eq] at hq; omega)
 ·exact ⟨x, List.mem_map.2 ⟨_, hx, by rw [lapP_of h hx, if_neg hq]⟩, goes.refl x⟩
theorem goes_call {S : HZ} (h : HInv S) (c : Cl) {n : Int} {x : Od} (hx : (n, x) ∈ S.ords) : ∃ y, (n, y) ∈ (callM c S).ords ∧ goes x y := by
 unfold callM
 by_cases k1 : c.kind = 1
 ·rw [if_pos k1]
  refine ⟨x, ?_, goes.refl x⟩
  unfold askM
  split
  ·exact hx
  ·split <;> exact List.mem_append_left _ hx
 rw [if_neg k1]
 by_cases k2 : c.kind = 2
 ·rw [if_pos k2]
  unfold payM
  cases hl : lkP S.ords c.order with
  | none => exact ⟨x, hx, goes.refl x⟩
  | some y =>
   dsimp only
   by_cases h2 : y.pc.st = 2
   ·rw [if_pos h2]
    by_cases hn : n = c.order
    ·have : y = x := by
      have := lkP_of h.nd hx
      rw [hn, hl] at this; exact Option.some.inj this
     subst this
     exact ⟨paidO y, by rw [hn] at hx ⊢; exact mem_updM_self hx, rfl, rfl, fun _ => .inr (.inl rfl), fun e => by omega, fun e _ => absurd h2 e⟩
    ·exact ⟨x, mem_updM hx hn, goes.refl x⟩
   ·rw [if_neg h2]; exact ⟨x, hx, goes.refl x⟩
 rw [if_neg k2]
 by_cases k3 : c.kind = 3
 ·rw [if_pos k3]
  unfold dropM
  cases hl : lkP S.ords c.order with
  | none => exact ⟨x, hx, goes.refl x⟩
  | some y =>
   dsimp only
   by_cases h2 : hasB y = true
   ·rw [if_pos h2]
    by_cases hn : n = c.order
    ·have : y = x := by
      have := lkP_of h.nd hx
      rw [hn, hl] at this; exact Option.some.inj this
     subst this
     have h3 := (hasB_iff y).1 h2
     exact ⟨outO y 5, List.mem_map.2 ⟨_, hx, if_pos (by rw [hn]; simp)⟩, rfl, rfl, fun _ => .inr (.inr (.inr rfl)), fun _ => .inr rfl, fun e e' => by omega⟩
    ·exact ⟨x, List.mem_map.2 ⟨_, hx, if_neg (by simpa using hn)⟩, goes.refl x⟩
   ·rw [if_neg h2]; exact ⟨x, hx, goes.refl x⟩
 rw [if_neg k3]; exact ⟨x, hx, goes.refl x⟩
theorem goes_fold {hold : Int} : ∀ (l : List Cl) {S : HZ}, HInv S → (∀ c ∈ l, CV c) → ∀ {n : Int} {x : Od}, (n, x) ∈ S.ords → ∃ y, (n, y) ∈ (l.foldl (hearM hold) S).ords ∧ goes x y
 | [], _, _, _, n, x, hx => ⟨x, hx, goes.refl x⟩
 | c :: r, S, h, hc, n, x, hx => by
  obtain ⟨y, hy, g1⟩ := goes_lapse h (hold := hold) (m := c.at') hx
  obtain ⟨z, hz, g2⟩ := goes_call (h.lapse hold c.at') c hy
  obtain ⟨w, hw, g3⟩ := goes_fold (hold := hold) r (h.hear (hc c (by simp)) hold) (fun d hd => hc d (by simp [hd])) hz
  exact ⟨w, hw, (g1.trans g2).trans g3⟩
def askLe (S : HZ) (m : Int) : Prop := ∀ p ∈ S.ords, p.2.asked ≤ m
theorem askLe_kill {S : HZ} {m : Int} (h : askLe S m) (q : Int → Bool) (st : Int) : askLe (killM q st S) m := fun p hp => by
 obtain ⟨x, hx, ⟨_, e⟩ | ⟨_, e⟩⟩ := killM_mem hp
 ·rw [e]; exact h _ hx
 ·rw [e]; exact h _ hx
theorem askLe_hear {S : HZ} {m : Int} (h : askLe S m) (hold : Int) {c : Cl} (hc : c.at' ≤ m) : askLe (hearM hold S c) m := by
 have h' : askLe (lapseM hold c.at' S) m := askLe_kill h _ _
 unfold hearM callM askM payM dropM
 generalize lapseM hold c.at' S = S at h'
 split
 ·split
  ·exact h'
  ·split
   ·intro p hp
    rcases List.mem_append.1 hp with hp | hp
    ·exact h' p hp
    ·rw [List.mem_singleton] at hp; rw [hp]; exact hc
   ·intro p hp
    rcases List.mem_append.1 hp with hp | hp
    ·exact h' p hp
    ·rw [List.mem_singleton] at hp; rw [hp]; exact hc
 ·split
  ·split
   ·split
    ·rename_i x hl _
     intro p hp
     rcases updM_mem hp with ⟨e, _⟩ | ⟨hp, _⟩
     ·rw [e]; exact h' (_, x) (lkP_mem hl)
     ·exact h' p hp
    ·exact h'
   ·exact h'
  ·split
   ·split
    ·split
     ·exact askLe_kill h' _ _
     ·exact h'
    ·exact h'
   ·exact h'
theorem askLe_fold {hold m : Int} : ∀ (l : List Cl) {S : HZ}, askLe S m → (∀ c ∈ l, c.at' ≤ m) → askLe (l.foldl (hearM hold) S) m
 | [], _, h, _ => h
 | c :: r, S, h, hc => askLe_fold r (askLe_hear h hold (hc c (by simp))) fun d hd => hc d (by simp [hd])
theorem askLe_after (h : Hl) (l : List Cl) (m : Int) : askLe (afterM h l m) m := by
 refine askLe_kill (askLe_fold _ (show askLe (emptyM h.rows) m from fun p hp => absurd (show p ∈ [] from hp) List.not_mem_nil) fun c hc => ?_) _ _
 exact of_decide_eq_true (List.mem_filter.1 hc).2
theorem held_lapse {S : HZ} (h : HInv S) {hold m : Int} {p : Int × Od} (hp : p ∈ (lapseM hold m S).ords) (h2 : p.2.pc.st = 2) : m < p.2.asked + hold := by
 obtain ⟨x, hx, ⟨_, e⟩ | ⟨hq, e⟩⟩ := killM_mem hp
 ·rw [e] at h2; cases h2
 ·rw [lapP_of h hx] at hq
  rw [e] at h2 ⊢
  unfold lapB at hq
  rw [h2] at hq
  have := of_decide_eq_false (show decide (x.asked + hold ≤ m) = false by simpa using hq)
  omega
theorem later_plc {h : Hl} {l : List Cl} {m m' : Int} (hl : ∀ c ∈ l, CV c) (hm : m ≤ m') {n : Int} {x : Od} (hx : (n, x) ∈ (afterM h l m).ords) (hI : HInv (afterM h l m)) : ∃ y, plcM (afterM h l m') n = y.pc ∧ goes x y ∧ (y.pc.st = 2 → m' < m + h.hold) := by
 have hv : ∀ c ∈ (heardM l).filter (fun c => decide (m < c.at') && decide (c.at' ≤ m')), CV c := fun c hc => hl c (heard_sub l c (List.mem_filter.1 hc).1)
 obtain ⟨y, hy, g1⟩ := goes_fold (hold := h.hold) _ hI hv hx
 have hI2 := HInv.fold (hold := h.hold) _ hI hv
 obtain ⟨z, hz, g2⟩ := goes_lapse hI2 (hold := h.hold) (m := m') hy
 have hI3 := hI2.lapse h.hold m'
 rw [after_later hl hm]
 refine ⟨z, plcM_of hI3 hz, g1.trans g2, fun h2 => ?_⟩
 have h3 := held_lapse hI2 hz h2
 have h4 := askLe_after h l m _ hx
 have h5 := (g1.trans g2).as
 dsimp only at h3 h4
 omega
end Go.Ab.T
end
