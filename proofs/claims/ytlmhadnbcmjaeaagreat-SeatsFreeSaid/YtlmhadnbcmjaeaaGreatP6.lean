/-
 A part of the proofs over this seat.
 (The texts KqK17 KqK18, one behind the other.)
-/
import Derived.Test.YtlmhadnbcmjaeaaGreatP5
import Derived.Test.YtlmhadnbcmjaeaaGreatA0
set_option linter.unusedSimpArgs false
set_option linter.unusedVariables false
set_option linter.unusedSectionVars false
section
namespace Go.Ab.T
set_option maxRecDepth 8000
set_option maxHeartbeats 4000000
theorem perm_map {α β : Type} (f : α → β) : ∀ (l : List α) (π : List β), π.Perm (l.map f) → ∃ l' : List α, l'.Perm l ∧ π = l'.map f
 | [], π, h => ⟨[], List.Perm.refl _, by simpa using h⟩
 | a :: l, π, h => by
  obtain ⟨p, q, rfl⟩ := List.append_of_mem (h.mem_iff.2 (by simp : f a ∈ (a :: l).map f))
  have h2 : (p ++ q).Perm (l.map f) := (List.perm_cons (f a)).1 (List.perm_middle.symm.trans h)
  obtain ⟨l', h3, h4⟩ := perm_map f l (p ++ q) h2
  obtain ⟨p', q', rfl, rfl, rfl⟩ := List.map_eq_append_iff.1 h4.symm
  exact ⟨p' ++ a :: q', List.perm_middle.trans (h3.cons a), by simp⟩
def kvE (p : Oe) : AV × AV := (I64 p.1, .ptr p.2.1 0 0)
theorem im_kv (ords : List Oe) : im (ords.map kvO) = ords.map kvE := by unfold im; rw [List.map_map]; rfl
theorem HW.dis {fr : List (Nat × Blk)} {a mid : Nat} {rv hold vn : AV} {rows : List Rw} {ords : List Oe} {bl : List Blk} (h : HW fr a mid rv hold rows ords vn bl) : ∀ p ∈ rows, ∀ q ∈ ords, p.1 ≠ q.2.1 := fun p hp q hq e => by
 have h1 := h.hr p hp
 have h2 := h.ho q hq
 rw [e, h2] at h1
 simp at h1
theorem HW.rlt {fr : List (Nat × Blk)} {a mid : Nat} {rv hold vn : AV} {rows : List Rw} {ords : List Oe} {bl : List Blk} (h : HW fr a mid rv hold rows ords vn bl) : ∀ p ∈ rows, p.1 < bl.length := fun p hp => (List.getElem?_eq_some_iff.1 (h.hr p hp)).1
theorem HW.olt {fr : List (Nat × Blk)} {a mid : Nat} {rv hold vn : AV} {rows : List Rw} {ords : List Oe} {bl : List Blk} (h : HW fr a mid rv hold rows ords vn bl) : ∀ p ∈ ords, p.2.1 < bl.length := fun p hp => (List.getElem?_eq_some_iff.1 (h.ho p hp)).1
theorem HW.ra {fr : List (Nat × Blk)} {a mid : Nat} {rv hold vn : AV} {rows : List Rw} {ords : List Oe} {bl : List Blk} (h : HW fr a mid rv hold rows ords vn bl) : ∀ p ∈ rows, p.1 ≠ a := fun p hp e => by
 obtain ⟨t, ha⟩ := h.ha
 have h1 := h.hr p hp
 rw [e, ha] at h1
 simp at h1
theorem HW.rm {fr : List (Nat × Blk)} {a mid : Nat} {rv hold vn : AV} {rows : List Rw} {ords : List Oe} {bl : List Blk} (h : HW fr a mid rv hold rows ords vn bl) : (∀ p ∈ rows, p.1 ≠ mid) ∧ (∀ p ∈ ords, p.2.1 ≠ mid) ∧ mid ≠ a := by
 have hm := h.hm
 refine ⟨fun p hp e => ?_, fun p hp e => ?_, fun e => ?_⟩
 ·have h1 := h.hr p hp; rw [e, hm] at h1; simp at h1
 ·have h1 := h.ho p hp; rw [e, hm] at h1; simp at h1
 ·obtain ⟨t, ha⟩ := h.ha; rw [e, ha] at hm; simp at hm
theorem HW.to {fr : List (Nat × Blk)} {a mid : Nat} {rv hold vn : AV} {rows rows' : List Rw} {ords ords' : List Oe} {bl m : List Blk} (h : HW fr a mid rv hold rows ords vn bl) (hm : MI bl rows' ords' m) (hf : rows'.map Prod.fst = rows.map Prod.fst) (hl : rows'.map refR = rows.map refR) (hk : ords'.map kvO = ords.map kvO) : HW fr a mid rv hold rows' ords' vn m := by
 obtain ⟨t, ha⟩ := h.ha
 obtain ⟨r1, r2, r3⟩ := h.rm
 have hb : ords'.map (fun p => p.2.1) = ords.map fun p => p.2.1 := by
  have := congrArg (List.map fun x : Int × AV => match x.2 with | .ptr b _ _ => b | _ => 0) hk
  rw [List.map_map, List.map_map] at this
  exact this
 have hr' : ∀ p ∈ rows', ∃ p0 ∈ rows, p0.1 = p.1 := fun p hp => by
  have : p.1 ∈ rows.map Prod.fst := by rw [← hf]; exact List.mem_map.2 ⟨p, hp, rfl⟩
  obtain ⟨p0, h0, e⟩ := List.mem_map.1 this
  exact ⟨p0, h0, e⟩
 have ho' : ∀ p ∈ ords', ∃ p0 ∈ ords, p0.2.1 = p.2.1 := fun p hp => by
  have : p.2.1 ∈ ords.map fun p => p.2.1 := by rw [← hb]; exact List.mem_map.2 ⟨p, hp, rfl⟩
  obtain ⟨p0, h0, e⟩ := List.mem_map.1 this
  exact ⟨p0, h0, e⟩
 refine ⟨⟨t, ?_⟩, hm.hr, ?_, hm.ho, by rw [hf]; exact h.nd, by rw [hb]; exact h.no, fun p hp e => ?_, fun p hp => ?_⟩
 ·rw [hm.un a (fun p hp e => ?_) (fun p hp e => ?_), ha, hl]
  ·obtain ⟨p0, h0, e0⟩ := hr' p hp; exact h.ra p0 h0 (e0.trans e)
  ·obtain ⟨p0, h0, e0⟩ := ho' p hp; exact h.na p0 h0 (e0.trans e)
 ·rw [hm.un mid (fun p hp e => ?_) (fun p hp e => ?_), h.hm, hk]
  ·obtain ⟨p0, h0, e0⟩ := hr' p hp; exact r1 p0 h0 (e0.trans e)
  ·obtain ⟨p0, h0, e0⟩ := ho' p hp; exact r2 p0 h0 (e0.trans e)
 ·obtain ⟨p0, h0, e0⟩ := ho' p hp; exact h.na p0 h0 (e0.trans e)
 ·obtain ⟨f1, f2, f3, f4, f5⟩ := h.fr' p hp
  have g4 : ∀ q ∈ rows', q.1 ≠ p.1 := fun q hq e => by
   obtain ⟨p0, h0, e0⟩ := hr' q hq; exact f4 p0 h0 (e0.trans e)
  have g5 : ∀ q ∈ ords', q.2.1 ≠ p.1 := fun q hq e => by
   obtain ⟨p0, h0, e0⟩ := ho' q hq; exact f5 p0 h0 (e0.trans e)
  exact ⟨by rw [hm.un p.1 g4 g5]; exact f1, f2, f3, g4, g5⟩
theorem VV.to {fr : List (Nat × Blk)} {a mid : Nat} {rv hold vn : AV} {rows rows' : List Rw} {ords ords' : List Oe} {bl m : List Blk} {vain : List Int} (h : HW fr a mid rv hold rows ords vn bl) (hv : VV fr rows vain vn bl) (hm : MI bl rows' ords' m) (hf : rows'.map Prod.fst = rows.map Prod.fst) (hb : ords'.map (fun p => p.2.1) = ords.map fun p => p.2.1) : VV fr rows' vain vn m := by
 rcases hv with hv | ⟨hne, id, e, hid, hri, hfi⟩
 ·exact .inl hv
 ·have hr' : ∀ p ∈ rows', p.1 ≠ id := fun p hp e => by
   have : p.1 ∈ rows.map Prod.fst := by rw [← hf]; exact List.mem_map.2 ⟨p, hp, rfl⟩
   obtain ⟨p0, h0, e0⟩ := List.mem_map.1 this
   exact hri p0 h0 (e0.trans e)
  refine .inr ⟨hne, id, e, ?_, hr', hfi⟩
  rw [hm.un id hr' fun p hp e => ?_, hid]
  have : p.2.1 ∈ ords.map fun p => p.2.1 := by rw [← hb]; exact List.mem_map.2 ⟨p, hp, rfl⟩
  obtain ⟨p0, h0, e0⟩ := List.mem_map.1 this
  have h1 := h.ho p0 h0
  rw [e0, e, hid] at h1
  simp at h1
theorem rowsD_ref (q : Int → Bool) (rows : List Rw) : (rowsD q rows).map refR = rows.map refR := by
 unfold rowsD
 rw [List.map_map]
 apply List.map_congr_left
 intro p _
 show AV.ref p.1 0 (offR q p.2).length = _
 rw [offR_len]; rfl
theorem MI.leave {bl : List Blk} {rows : List Rw} {ords : List Oe} {m : List Blk} (h : MI bl rows ords m) (h1 : (rows.map Prod.fst).Nodup) (h2 : (ords.map fun p => p.2.1).Nodup) (h3 : ∀ p ∈ rows, ∀ q ∈ ords, p.1 ≠ q.2.1) {r : Nat} {q : Rw} (hq : rows[r]? = some q) (row : List Int) {n : Int} {b : Nat} {x : Od} (hx : (n, b, x) ∈ ords) (x' : Od) :
  MI bl (rows.set r (q.1, row)) (updO ords b x') ((m.set q.1 (.live (iL row) 1)).set b (.live [encO x'] 5)) := by
 have hqm := List.mem_of_getElem? hq
 have hqlt : q.1 < m.length := (List.getElem?_eq_some_iff.1 (h.hr q hqm)).1
 have hblt : b < m.length := (List.getElem?_eq_some_iff.1 (h.ho _ hx)).1
 have hrl : r < rows.length := (List.getElem?_eq_some_iff.1 hq).1
 have hrm : ∀ p ∈ rows.set r (q.1, row), (p = (q.1, row)) ∨ (p ∈ rows ∧ p.1 ≠ q.1) := fun p hp => by
  obtain ⟨i, hi, rfl⟩ := List.getElem_of_mem hp
  rw [List.length_set] at hi
  rw [List.getElem_set]
  by_cases he : r = i
  ·rw [if_pos he]; exact .inl rfl
  ·rw [if_neg he]
   refine .inr ⟨List.getElem_mem hi, fun e => ?_⟩
   have h5 : (rows.map Prod.fst)[r]? = some q.1 := by rw [List.getElem?_map, hq]; rfl
   have h6 : (rows.map Prod.fst)[i]? = some q.1 := by rw [List.getElem?_map, List.getElem?_eq_getElem hi, Option.map_some, e]
   exact he ((List.getElem?_inj (by simpa using hrl) h1).1 (h5.trans h6.symm))
 have hom : ∀ p ∈ updO ords b x', (p.2.1 = b ∧ p.2.2 = x') ∨ (p ∈ ords ∧ p.2.1 ≠ b) := fun p hp => by
  obtain ⟨p0, h0, e⟩ := List.mem_map.1 hp
  by_cases hc : p0.2.1 = b
  ·rw [if_pos hc] at e; subst e; exact .inl ⟨rfl, rfl⟩
  ·rw [if_neg hc] at e; subst e; exact .inr ⟨h0, hc⟩
 refine ⟨by rw [List.length_set, List.length_set]; exact h.len, fun p hp => ?_, fun p hp => ?_, fun i hr ho => ?_⟩
 ·rcases hrm p hp with e | ⟨hp, hne⟩
  ·subst e
   rw [List.getElem?_set_ne (fun e => h3 q hqm _ hx e.symm), List.getElem?_set_self hqlt]
  ·rw [List.getElem?_set_ne (fun e => h3 p hp _ hx e.symm), List.getElem?_set_ne (fun e => hne e.symm)]; exact h.hr p hp
 ·rcases hom p hp with ⟨e1, e2⟩ | ⟨hp, hne⟩
  ·rw [e1, e2, List.getElem?_set_self (by rw [List.length_set]; exact hblt)]
  ·rw [List.getElem?_set_ne (fun e => hne e.symm), List.getElem?_set_ne (h3 q hqm p hp)]; exact h.ho p hp
 ·have hiq : q.1 ≠ i := hr (q.1, row) (List.mem_of_getElem? (i := r) (by rw [List.getElem?_set_self hrl]))
  have hib : b ≠ i := ho (n, b, x') (List.mem_map.2 ⟨_, hx, if_pos rfl⟩)
  rw [List.getElem?_set_ne hib, List.getElem?_set_ne hiq]
  refine h.un i (fun p hp e => ?_) fun p hp e => ?_
  ·have : p.1 ∈ (rows.set r (q.1, row)).map Prod.fst := by
    rw [List.map_set, set_same' (show (rows.map Prod.fst)[r]? = some q.1 by rw [List.getElem?_map, hq]; rfl)]
    exact List.mem_map.2 ⟨p, hp, rfl⟩
   obtain ⟨p0, h0, e0⟩ := List.mem_map.1 this
   exact hr p0 h0 (e0.trans e)
  ·have : p.2.1 ∈ (updO ords b x').map fun p => p.2.1 := by rw [updO_blk]; exact List.mem_map.2 ⟨p, hp, rfl⟩
   obtain ⟨p0, h0, e0⟩ := List.mem_map.1 this
   exact ho p0 h0 (e0.trans e)
theorem eq_keys {ords : List Oe} (hnd : (ords.map fun p => p.1).Nodup) : ∀ {d l : List Oe}, (d.map fun p => p.1) = (l.map fun p => p.1) → (∀ p ∈ d, p ∈ ords) → (∀ p ∈ l, p ∈ ords) → d = l
 | [], [], _, _, _ => rfl
 | [], _ :: _, h, _, _ => by cases h
 | _ :: _, [], h, _, _ => by cases h
 | p :: d, q :: l, h, h1, h2 => by
  rw [List.map_cons, List.map_cons] at h
  injection h with a b
  rw [mem_nodup_key hnd (h1 p (by simp)) (h2 q (by simp)) a, eq_keys hnd b (fun x hx => h1 x (by simp [hx])) fun x hx => h2 x (by simp [hx])]
def ndL (hold m : Int) (d : List Oe) : Nat := (d.filter fun p => lapB hold m p.2.2).length
def fgL : List Nat := [10, 11, 12, 13, 5, 14, 15, 16, 17, 18, 19, 20, 21, 22, 23, 24, 25, 26, 27, 28, 29, 30, 31, 32, 33, 34, 35, 36, 37]
theorem fgL_ne {t : Nat} (ht : fgL.contains t = false) : t ≠ 5 ∧ (t < 10 ∨ 37 < t) := by
 have : ¬ t ∈ fgL := by simpa using ht
 unfold fgL at this
 simp at this
 omega
theorem lapse_W {fr : List (Nat × Blk)} {a mid : Nat} {rv vn : AV} {hold m : Int} {rows : List Rw} {ords : List Oe} {bl : List Blk} {vain : List Int} (h : HW fr a mid rv (I64 hold) rows ords vn bl) (hv : VV fr rows vain vn bl) (hI : HInv (stH rows ords vain)) (h0 : 0 ≤ hold) (h1 : hold ≤ 1000000) (hrl : ∀ p ∈ rows, p.2.length ≤ 1000) (tk : List (Nat × Nat)) (K : AV → Mem → Prop)
  (hK : ∀ rows' ords' bl', HW fr a mid rv (I64 hold) rows' ords' vn bl' → VV fr rows' vain vn bl' → stH rows' ords' vain = lapseM hold m (stH rows ords vain) → rows'.map refR = rows.map refR → (∀ i, i < bl.length → (∀ p ∈ rows, p.1 ≠ i) → (∀ p ∈ ords, p.2.1 ≠ i) → bl'[i]? = bl[i]?) → K (.tup []) ⟨bl', tk⟩) : WR ft (.f 53) [.ptr a 0 0, I64 m] ⟨bl, tk⟩ K := by
 rw [WR_f ft53 rfl]
 simp only [c53, r53]
 have hmlt := (List.getElem?_eq_some_iff.1 h.hm).1
 obtain ⟨t, ha⟩ := h.ha
 obtain ⟨r1, r2, r3⟩ := h.rm
 have hq := qd_all (hold := hold) (m := m) hI
 have hF : MI bl (rowsD (qd hold m ords) rows) (ordsD (qd hold m ords) ords) (mkF bl (rowsD (qd hold m ords) rows) (ordsD (qd hold m ords) ords)) := mkF_MI (by rw [rowsD_fst]; exact h.nd) (by rw [ordsD_blk]; exact h.no) (fun p hp q hq' e => by
   have g1 : p.1 ∈ rows.map Prod.fst := by rw [← rowsD_fst (qd hold m ords)]; exact List.mem_map.2 ⟨p, hp, rfl⟩
   have g2 : q.2.1 ∈ ords.map fun p => p.2.1 := by rw [← ordsD_blk (qd hold m ords)]; exact List.mem_map.2 ⟨q, hq', rfl⟩
   obtain ⟨p0, hp0, e1⟩ := List.mem_map.1 g1
   obtain ⟨q0, hq0, e2⟩ := List.mem_map.1 g2
   exact h.dis p0 hp0 q0 hq0 (by rw [e1, e2, e])) (fun p hp => by
   have g1 : p.1 ∈ rows.map Prod.fst := by rw [← rowsD_fst (qd hold m ords)]; exact List.mem_map.2 ⟨p, hp, rfl⟩
   obtain ⟨p0, hp0, e1⟩ := List.mem_map.1 g1
   rw [← e1]; exact h.rlt p0 hp0) (fun q hq' => by
   have g2 : q.2.1 ∈ ords.map fun p => p.2.1 := by rw [← ordsD_blk (qd hold m ords)]; exact List.mem_map.2 ⟨q, hq', rfl⟩
   obtain ⟨q0, hq0, e2⟩ := List.mem_map.1 g2
   rw [← e2]; exact h.olt q0 hq0)
 generalize hFe : mkF bl (rowsD (qd hold m ords) rows) (ordsD (qd hold m ords) ords) = F at hF
 have hHF := h.to hF (rowsD_fst (qd hold m ords) rows) (rowsD_ref (qd hold m ords) rows) (ordsD_kv (qd hold m ords) ords)
 have hVF := VV.to h hv hF (rowsD_fst (qd hold m ords) rows) (ordsD_blk (qd hold m ords) ords)
 have hSF : stH (rowsD (qd hold m ords) rows) (ordsD (qd hold m ords) ords) vain = lapseM hold m (stH rows ords vain) := by rw [stH_D, hq]; rfl
 refine W_rngm ?_
 simp only [go_sem, Nat.reduceEqDiff, Nat.reduceAdd, Nat.reduceLT, Nat.reduceLeDiff, reduceIte, ha]
 refine ⟨mid, im (ords.map kvO), .i, .nxt, ⟨fun u => if fgL.contains u = true then .undef else upd (upd (upd (upd (entry [AV.ptr a 0 0, I64 m]) 6 (.ptr a 0 0)) 7 (.ptr a 0 0)) 8 (.ptr a 0 3)) 9 (.mp mid) u, ⟨F ++ List.replicate (ndL hold m ords + 1) .dead, tk⟩⟩, rfl, h.hm, ?_, ?_⟩
 ·simp only [go_sem, Nat.reduceEqDiff, Nat.reduceAdd, Nat.reduceLT, Nat.reduceLeDiff, reduceIte]
  refine hK _ _ _ (hHF.app _) (hVF.ext _) hSF (rowsD_ref _ _) fun i hi q1 q2 => ?_
  rw [List.getElem?_append_left (by rw [hF.len]; exact hi)]
  refine hF.un i (fun p hp e => ?_) fun p hp e => ?_
  ·have g1 : p.1 ∈ rows.map Prod.fst := by rw [← rowsD_fst (qd hold m ords)]; exact List.mem_map.2 ⟨p, hp, rfl⟩
   obtain ⟨p0, hp0, e1⟩ := List.mem_map.1 g1
   exact q1 p0 hp0 (e1.trans e)
  ·have g2 : p.2.1 ∈ ords.map fun p => p.2.1 := by rw [← ordsD_blk (qd hold m ords)]; exact List.mem_map.2 ⟨p, hp, rfl⟩
   obtain ⟨p0, hp0, e1⟩ := List.mem_map.1 g2
   exact q2 p0 hp0 (e1.trans e)
 intro π hπ
 rw [im_kv] at hπ
 obtain ⟨l', hl', rfl⟩ := perm_map _ ords π hπ
 have hsub : ∀ p ∈ l', p ∈ ords := fun p hp => hl'.mem_iff.1 hp
 have hnd' : (l'.map fun p => p.1).Nodup := (hl'.map _).nodup_iff.2 (by rw [← keys_stO]; exact hI.nd)
 refine Rw_inv (kvs := l'.map kvE) (fun dn s => ∃ d : List Oe, dn = d.map kvE ∧ (∀ p ∈ d, p ∈ ords) ∧ s.env 10 = .itr bl.length ∧ (∀ u, fgL.contains u = false → s.env u = upd (upd (upd (upd (entry [AV.ptr a 0 0, I64 m]) 6 (.ptr a 0 0)) 7 (.ptr a 0 0)) 8 (.ptr a 0 3)) 9 (.mp mid) u) ∧ ∃ M junk, MI bl (rowsD (qd hold m d) rows) (ordsD (qd hold m d) ords) M ∧ junk.length = ndL hold m d ∧ s.mem = ⟨M.set mid .dead ++ (.dead :: junk), tk⟩) ?_ ?_ _ [] _ (List.Perm.refl _) ?_
 ·rintro dn p rest ⟨e, mm⟩ hp ⟨d, rfl, hdl, h10, hE, M, junk, hM, hj, hmm⟩
  have hinj : ∀ (x y : List Oe), x.map kvE = y.map kvE → x.map (fun p => p.1) = y.map fun p => p.1 := fun x y hxy => by
   have := congrArg (List.map fun z : AV × AV => match z.1 with | .int _ n => n | _ => 0) hxy
   rw [List.map_map, List.map_map] at this
   exact this
  dsimp only at h10 hE hmm ⊢
  subst hmm
  obtain ⟨x, hx, rfl⟩ := List.mem_map.1 (hp.mem_iff.1 (by simp : p ∈ _ ++ p :: rest))
  obtain ⟨rest', rfl⟩ : ∃ r' : List Oe, rest = r'.map kvE := by
   obtain ⟨l2, _, he2⟩ := perm_map kvE l' _ hp
   obtain ⟨p', q', _, _, h5⟩ := List.map_eq_append_iff.1 he2.symm
   cases q' with
   | nil => cases h5
   | cons y q' => rw [List.map_cons] at h5; exact ⟨q', (List.cons.inj h5).2.symm⟩
  obtain ⟨n, b, x⟩ := x
  have hpl : (n, b, x) ∈ l' := hx
  have hpo : (n, b, x) ∈ ords := hsub _ hpl
  have hpm : ((d ++ (n, b, x) :: rest').map kvE).Perm (l'.map kvE) := by rw [List.map_append, List.map_cons]; exact hp
  obtain ⟨l2, hl2, he2⟩ := perm_map kvE l' _ hpm
  have hkeys : ((d ++ (n, b, x) :: rest').map fun p => p.1).Nodup := by
   rw [hinj _ _ he2]; exact (hl2.map _).nodup_iff.2 hnd'
  have hdo : ∀ p ∈ d, p ∈ ords := fun p hp' => hdl p hp'
  have hdn : ∀ p ∈ d, p.1 ≠ n := fun p hp' e' => by
   rw [List.map_append, List.nodup_append] at hkeys
   exact hkeys.2.2 p.1 (List.mem_map.2 ⟨p, hp', rfl⟩) n (by simp) e'
  have hqn : qd hold m d n = false := by
   unfold qd
   rw [List.any_eq_false]
   intro p hp' e'
   rw [Bool.and_eq_true, beq_iff_eq] at e'
   exact hdn p hp' e'.1
  have hxD : (n, b, x) ∈ ordsD (qd hold m d) ords := List.mem_map.2 ⟨_, hpo, by rw [if_neg (by rw [hqn]; decide)]⟩
  have hbm : b ≠ mid := r2 _ hpo
  have hB : (M.set mid .dead ++ (.dead :: junk))[b]? = some (.live [encO x] 5) := gB (by rw [List.getElem?_set_ne (fun e' => hbm e'.symm)]; exact hM.ho _ hxD) _
  have hMa : M[a]? = some (.live [.agg [rv, I64 hold, .sl (rows.map refR) t, .mp mid, vn]] 5) := by
   rw [hM.un a (fun p hp' e' => by
    have g1 : p.1 ∈ rows.map Prod.fst := by rw [← rowsD_fst (qd hold m d)]; exact List.mem_map.2 ⟨p, hp', rfl⟩
    obtain ⟨p0, hp0, e1⟩ := List.mem_map.1 g1
    exact h.ra p0 hp0 (e1.trans e')) (fun p hp' e' => by
    have g2 : p.2.1 ∈ ords.map fun p => p.2.1 := by rw [← ordsD_blk (qd hold m d)]; exact List.mem_map.2 ⟨p, hp', rfl⟩
    obtain ⟨p0, hp0, e1⟩ := List.mem_map.1 g2
    exact h.na p0 hp0 (e1.trans e'))]
   exact ha
  have hA : (M.set mid .dead ++ (.dead :: junk))[a]? = some (.live [.agg [rv, I64 hold, .sl (rows.map refR) t, .mp mid, vn]] 5) := gB (by rw [List.getElem?_set_ne r3]; exact hMa) _
  have e0 : e 0 = .ptr a 0 0 := hE 0 rfl
  have e1 : e 1 = I64 m := hE 1 rfl
  have hfg : ∀ u, fgL.contains u = false → u ≠ 10 ∧ u ≠ 11 ∧ u ≠ 12 ∧ u ≠ 13 ∧ u ≠ 5 ∧ u ≠ 14 ∧ u ≠ 15 ∧ u ≠ 16 ∧ u ≠ 17 ∧ u ≠ 18 ∧ u ≠ 19 ∧ u ≠ 20 ∧ u ≠ 21 ∧ u ≠ 22 ∧ u ≠ 23 ∧ u ≠ 24 ∧ u ≠ 25 ∧ u ≠ 26 ∧ u ≠ 27 ∧ u ≠ 28 ∧ u ≠ 29 ∧ u ≠ 30 ∧ u ≠ 31 ∧ u ≠ 32 ∧ u ≠ 33 ∧ u ≠ 34 ∧ u ≠ 35 ∧ u ≠ 36 ∧ u ≠ 37 := fun u hu => by
   refine ⟨?_, ?_, ?_, ?_, ?_, ?_, ?_, ?_, ?_, ?_, ?_, ?_, ?_, ?_, ?_, ?_, ?_, ?_, ?_, ?_, ?_, ?_, ?_, ?_, ?_, ?_, ?_, ?_, ?_⟩ <;> rintro rfl <;> exact absurd hu (by decide)
  refine ⟨h10, ?_⟩
  have hfin : ∀ (PP : Prop) (e' : Nat → AV) (d' : List Oe) (M' junk' : List Blk), PP → d' = d ++ [(n, b, x)] → (∀ u, fgL.contains u = false → e' u = e u) → MI bl (rowsD (qd hold m d') rows) (ordsD (qd hold m d') ords) M' → junk'.length = ndL hold m d' → ∀ m' : Mem, m' = ⟨M'.set mid .dead ++ (.dead :: junk'), tk⟩ →
    ∃ d2 : List Oe, d.map kvE ++ [kvE (n, b, x)] = d2.map kvE ∧ (∀ p ∈ d2, p ∈ ords) ∧ PP ∧ (∀ u, fgL.contains u = false → e' u = upd (upd (upd (upd (entry [AV.ptr a 0 0, I64 m]) 6 (.ptr a 0 0)) 7 (.ptr a 0 0)) 8 (.ptr a 0 3)) 9 (.mp mid) u) ∧ ∃ (M2 junk2 : List Blk), MI bl (rowsD (qd hold m d2) rows) (ordsD (qd hold m d2) ords) M2 ∧ junk2.length = ndL hold m d2 ∧ m' = ⟨M2.set mid .dead ++ (.dead :: junk2), tk⟩ := fun PP e' d' M' junk' hpp hd' hE' hM' hj' m' hm' => by
   subst hd'
   exact ⟨_, by rw [List.map_append]; rfl, fun p hp' => by
    rcases List.mem_append.1 hp' with hp' | hp'
    ·exact hdl p hp'
    ·rw [List.mem_singleton] at hp'; rw [hp']; exact hpo, hpp, fun u hu => (hE' u hu).trans (hE u hu), M', junk', hM', hj', hm'⟩
  have hasd := hI.asd (n, x) (List.mem_map.2 ⟨_, hpo, rfl⟩)
  dsimp only at hasd
  have hw : IntKind.i64.wrap (x.asked + hold) = x.asked + hold := wrap_i64 _ (by omega) (by omega)
  cases hst : (x.pc.st == 2)
  case false =>
   have hlp : lapB hold m x = false := by unfold lapB; rw [hst]; rfl
   simp only [go_sem, Nat.reduceEqDiff, Nat.reduceAdd, Nat.reduceLT, Nat.reduceLeDiff, reduceIte, e0, e1, h10, hB, hA, hst, kvE]
   refine hfin _ _ _ M junk trivial rfl (fun u hu => ?_) ?_ ?_ _ rfl
   ·obtain ⟨k10, k11, k12, k13, k5, k14, k15, k16, k17, k18, k19, k20, k21, k22, k23, k24, k25, k26, k27, k28, k29, k30, k31, k32, k33, k34, k35, k36, k37⟩ := hfg u hu
    simp only [upd, k10, k11, k12, k13, k5, k14, k15, k16, k17, k18, k19, k20, k21, k22, k23, k24, k25, k26, k27, k28, k29, k30, k31, k32, k33, k34, k35, k36, k37, if_false]
   ·rw [lapse_skip hlp]; exact hM
   ·rw [hj]; unfold ndL; rw [List.filter_append]; simp [hlp]
  cases hti : decide (x.asked + hold ≤ m)
  case false =>
   have hlp : lapB hold m x = false := by unfold lapB; rw [hti, Bool.and_false]
   simp only [go_sem, Nat.reduceEqDiff, Nat.reduceAdd, Nat.reduceLT, Nat.reduceLeDiff, reduceIte, e0, e1, h10, hB, hA, hst, hw, hti, kvE]
   refine hfin _ _ _ M junk trivial rfl (fun u hu => ?_) ?_ ?_ _ rfl
   ·obtain ⟨k10, k11, k12, k13, k5, k14, k15, k16, k17, k18, k19, k20, k21, k22, k23, k24, k25, k26, k27, k28, k29, k30, k31, k32, k33, k34, k35, k36, k37⟩ := hfg u hu
    simp only [upd, k10, k11, k12, k13, k5, k14, k15, k16, k17, k18, k19, k20, k21, k22, k23, k24, k25, k26, k27, k28, k29, k30, k31, k32, k33, k34, k35, k36, k37, if_false]
   ·rw [lapse_skip hlp]; exact hM
   ·rw [hj]; unfold ndL; rw [List.filter_append]; simp [hlp]
  have hlp : lapB hold m x = true := by unfold lapB; rw [hst, hti]; rfl
  obtain ⟨r, s, z, q, g1, g2, g3, g4, g5, g6, g7⟩ := lapse_step hI h.no hdo hpo hdn hlp
  have hqm : q ∈ rowsD (qd hold m d) rows := List.mem_of_getElem? g4
  have hql : q.2.length ≤ 1000 := by
   obtain ⟨p0, hp0, rfl⟩ := List.mem_map.1 hqm
   dsimp only
   rw [offR_len]; exact hrl p0 hp0
  have hnd2 : ((rowsD (qd hold m d) rows).map Prod.fst).Nodup := by rw [rowsD_fst]; exact h.nd
  have hno2 : ((ordsD (qd hold m d) ords).map fun p => p.2.1).Nodup := by rw [ordsD_blk]; exact h.no
  have hdis2 : ∀ p ∈ rowsD (qd hold m d) rows, ∀ q ∈ ordsD (qd hold m d) ords, p.1 ≠ q.2.1 := fun p hp q hq' e => by
   have g1 : p.1 ∈ rows.map Prod.fst := by rw [← rowsD_fst (qd hold m d)]; exact List.mem_map.2 ⟨p, hp, rfl⟩
   have g2 : q.2.1 ∈ ords.map fun p => p.2.1 := by rw [← ordsD_blk (qd hold m d)]; exact List.mem_map.2 ⟨q, hq', rfl⟩
   obtain ⟨p0, hp0, e1⟩ := List.mem_map.1 g1
   obtain ⟨q0, hq0, e2⟩ := List.mem_map.1 g2
   exact h.dis p0 hp0 q0 hq0 (by rw [e1, e2, e])
  have hM2 := hM.leave hnd2 hno2 hdis2 g4 (fillR q.2 s z (-1)) hxD (outO x 4)
  rw [← g6, ← g7] at hM2
  have hqmid : q.1 ≠ mid := fun e' => by
   have g1 : q.1 ∈ rows.map Prod.fst := by rw [← rowsD_fst (qd hold m d)]; exact List.mem_map.2 ⟨q, hqm, rfl⟩
   obtain ⟨p0, hp0, e1⟩ := List.mem_map.1 g1
   exact r1 p0 hp0 (e1.trans e')
  have hqlt : q.1 < M.length := (List.getElem?_eq_some_iff.1 (hM.hr q hqm)).1
  have hblt : b < M.length := (List.getElem?_eq_some_iff.1 (hM.ho _ hxD)).1
  have hHF2 : HF a (rowsD (qd hold m d) rows) ⟨M.set mid .dead ++ (.dead :: junk), tk⟩ := ⟨⟨rv, I64 hold, .mp mid, vn, t, by rw [rowsD_ref]; exact hA⟩, fun p hp' => gB (by
   rw [List.getElem?_set_ne (fun e' => by
    have g1 : p.1 ∈ rows.map Prod.fst := by rw [← rowsD_fst (qd hold m d)]; exact List.mem_map.2 ⟨p, hp', rfl⟩
    obtain ⟨p0, hp0, e1⟩ := List.mem_map.1 g1
    exact r1 p0 hp0 (e1.trans e'.symm))]
   exact hM.hr p hp') _⟩
  have hmem : ((M.set mid .dead ++ (.dead :: junk)).set q.1 (Blk.live (iL (fillR q.2 s z (-1))) 1) ++ [Blk.live [encPc x.pc] 4]).set b (.live [encO (outO x 4)] 5) = ((M.set q.1 (.live (iL (fillR q.2 s z (-1))) 1)).set b (.live [encO (outO x 4)] 5)).set mid .dead ++ (.dead :: (junk ++ [Blk.live [encPc x.pc] 4])) := by
   have z1 : (M.set mid .dead ++ (.dead :: junk)).set q.1 (Blk.live (iL (fillR q.2 s z (-1))) 1) = (M.set mid .dead).set q.1 (Blk.live (iL (fillR q.2 s z (-1))) 1) ++ (.dead :: junk) := List.set_append_left _ _ (by rw [List.length_set]; exact hqlt)
   rw [z1, List.append_assoc, List.set_append_left _ _ (by rw [List.length_set, List.length_set]; exact hblt), List.cons_append]
   congr 1
   rw [List.set_comm _ _ hqmid.symm, List.set_comm _ _ hbm.symm]
  simp only [go_sem, Nat.reduceEqDiff, Nat.reduceAdd, Nat.reduceLT, Nat.reduceLeDiff, reduceIte, e0, e1, h10, hB, hA, hst, hw, hti, kvE, WB79]
  show WR ft (.f 79) _ _ _
  refine leave_W _ tk hHF2 hB g1 g2 g3 g4 hql g5 4 _ ?_
  rw [hmem]
  simp only [go_sem, Nat.reduceEqDiff, Nat.reduceAdd, Nat.reduceLT, Nat.reduceLeDiff, reduceIte]
  refine hfin _ _ _ _ (junk ++ [Blk.live [encPc x.pc] 4]) h10 rfl (fun u hu => ?_) hM2 ?_ _ rfl
  ·obtain ⟨k10, k11, k12, k13, k5, k14, k15, k16, k17, k18, k19, k20, k21, k22, k23, k24, k25, k26, k27, k28, k29, k30, k31, k32, k33, k34, k35, k36, k37⟩ := hfg u hu
   simp only [upd, k10, k11, k12, k13, k5, k14, k15, k16, k17, k18, k19, k20, k21, k22, k23, k24, k25, k26, k27, k28, k29, k30, k31, k32, k33, k34, k35, k36, k37, if_false]
  ·rw [List.length_append, hj]; unfold ndL; rw [List.filter_append]; simp [hlp]
 ·rintro dn ⟨e, mm⟩ hp ⟨d, rfl, hdl, h10, hE, M, junk, hM, hj, hmm⟩
  dsimp only at h10 hE hmm ⊢
  subst hmm
  refine ⟨h10, rfl, ?_⟩
  have hdp : d.Perm ords := by
   obtain ⟨l2, hl2, he2⟩ := perm_map kvE l' _ hp
   have hkk : d.map (fun p => p.1) = l2.map fun p => p.1 := by
    have := congrArg (List.map fun z : AV × AV => match z.1 with | .int _ n => n | _ => 0) he2
    rw [List.map_map, List.map_map] at this
    exact this
   rw [eq_keys (by rw [← keys_stO]; exact hI.nd) hkk hdl (fun p hp' => hsub p (hl2.mem_iff.1 hp'))]
   exact hl2.trans hl'
  have hqd : qd hold m d = qd hold m ords := qd_perm hdp
  rw [hqd] at hM
  have hMF : M = F := hM.uniq hF
  subst hMF
  have hn : ndL hold m d = ndL hold m ords := by unfold ndL; exact (hdp.filter _).length_eq
  have hMl : M.length = bl.length := hM.len
  have hMmid : M[mid]? = some (.mp (im (ords.map kvO)) .i) := by
   have := hHF.hm; rw [ordsD_kv] at this; exact this
  unfold St.clean
  congr 1
  ·funext u
   cases hu : (10 :: 11 :: 12 :: 13 :: [5, 14, 15, 16, 17, 18, 19, 20, 21, 22, 23, 24, 25, 26, 27, 28, 29, 30, 31, 32, 33, 34, 35, 36, 37]).contains u
   ·have hu' : fgL.contains u = false := hu
    dsimp only
    rw [if_neg (by decide), hu', if_neg (by decide)]
    exact hE u hu'
   ·have hu' : fgL.contains u = true := hu
    dsimp only
    rw [if_pos rfl, hu', if_pos rfl]
  ·dsimp only
   congr 1
   have c1 : (M.set mid .dead ++ (Blk.dead :: junk)).take bl.length = M.set mid .dead := by rw [List.take_append_of_le_length (by rw [List.length_set, hMl]; exact Nat.le_refl _), List.take_of_length_le (by rw [List.length_set, hMl]; exact Nat.le_refl _)]
   have c2 : (M.set mid .dead ++ (Blk.dead :: junk)).drop bl.length = Blk.dead :: junk := by rw [List.drop_append_of_le_length (by rw [List.length_set, hMl]; exact Nat.le_refl _), List.drop_of_length_le (by rw [List.length_set, hMl]; exact Nat.le_refl _)]; rfl
   rw [c1, c2, List.set_set, set_same hMmid, ← hn, ← hj]
   congr 1
   rw [List.map_cons, List.replicate_succ]
   congr 1
   exact List.map_const'
 ·have z0 : qd hold m [] = fun _ => false := rfl
  have z1 : rowsD (qd hold m []) rows = rows := by
   unfold rowsD
   rw [z0]
   apply List.ext_getElem?
   intro i
   rw [List.getElem?_map]
   cases rows[i]? with
   | none => rfl
   | some p => rw [Option.map_some]; unfold offR; simp
  have z2 : ordsD (qd hold m []) ords = ords := by
   unfold ordsD
   rw [z0]
   simp
  refine ⟨[], rfl, fun p hp => (nomatch hp), rfl, fun u hu => ?_, bl, [], ?_, rfl, rfl⟩
  ·have hu2 := fgL_ne hu
   unfold St.rngIn
   dsimp only
   have k10 : u ≠ 10 := fun e' => by subst e'; exact absurd hu (by decide)
   have k3 : [11, 12, 13].contains u = false := by
    cases hc : [11, 12, 13].contains u
    ·rfl
    ·simp at hc; rcases hc with e' | e' | e' <;> subst e' <;> exact absurd hu (by decide)
   rw [if_neg k10, k3, if_neg (by decide)]
  ·rw [z1, z2]; exact ⟨rfl, h.hr, h.ho, fun _ _ _ => rfl⟩
structure HS (fr : List (Nat × Blk)) (a : Nat) (rv : AV) (hold : Int) (S : HZ) (bl : List Blk) : Prop where
 ex : ∃ mid rows ords vn, HW fr a mid rv (I64 hold) rows ords vn bl ∧ VV fr rows S.vain vn bl ∧ rows.map Prod.snd = S.seats ∧ stO ords = S.ords
structure HB (S : HZ) (N : Nat) : Prop where
 inv : HInv S
 len : S.seats.length ≤ 6
 row : ∀ r ∈ S.seats, r.length ≤ 12
 vn : S.vain.length ≤ N
theorem lkO_st (ords : List Oe) (n : Int) : lkP (stO ords) n = (lkO ords n).map (·.2) := by
 unfold lkP lkO stO
 rw [List.find?_map]
 show Option.map _ (Option.map _ (ords.find? (·.1 == n))) = _
 cases ords.find? (·.1 == n) <;> rfl
theorem plcs_ids (z : Nat) : ∀ (rows : List Rw) (k : Nat), plcs z rows k = plcs z (idsM (rows.map Prod.snd)) k
 | [], _ => rfl
 | p :: r, k => by
  rw [plcs, plcs_ids z r (k + 1)]; rfl
theorem bestM_ids (rows : List Rw) (z : Nat) : bestM rows z = bestS (rows.map Prod.snd) z := by
 have hg : noGap rows z = noGap (idsM (rows.map Prod.snd)) z := funext fun q => by
  unfold noGap rowAt
  rw [ids_get, List.getElem?_map]
  cases rows[q.1]? <;> rfl
 unfold bestS bestM
 rw [← plcs_ids, ← hg]
theorem offM_len (q : Int → Bool) (seats : List (List Int)) : (offM q seats).length = seats.length := by unfold offM; simp
theorem HB.kill {S : HZ} {N : Nat} (h : HB S N) {q : Int → Bool} {st : Int} (h2 : st ≠ 2) (h3 : st ≠ 3) (hst : 1 ≤ st ∧ st ≤ 5) : HB (killM q st S) N :=
 ⟨h.inv.killed h2 h3 hst, by show (offM q S.seats).length ≤ 6; rw [offM_len]; exact h.len, fun r hr => by
  obtain ⟨r0, h0, rfl⟩ := List.mem_map.1 hr
  rw [offR_len]; exact h.row r0 h0, h.vn⟩
theorem HB.lapse {S : HZ} {N : Nat} (h : HB S N) (hold m : Int) : HB (lapseM hold m S) N := h.kill (by decide) (by decide) (by decide)
theorem getD_row {l : List (List Int)} (h : ∀ r ∈ l, r.length ≤ 12) (i : Nat) : (l.getD i []).length ≤ 12 := by
 rw [List.getD_eq_getElem?_getD]
 cases hs : l[i]? with
 | none => simp
 | some row => rw [Option.getD_some]; exact h row (List.mem_of_getElem? hs)
theorem HB.call {S : HZ} {N : Nat} (h : HB S N) {c : Cl} (hc : CV c) : HB (callM c S) (N + 1) := by
 refine ⟨h.inv.call hc, ?_, ?_, ?_⟩ <;> unfold callM askM payM dropM seatM
 ·split
  ·split
   ·exact h.len
   ·split
    ·exact h.len
    ·dsimp only; rw [List.length_set]; exact h.len
  ·split
   ·split
    ·split <;> exact h.len
    ·exact h.len
   ·split
    ·split
     ·split
      ·exact (h.kill (q := (· == c.order)) (st := 5) (by decide) (by decide) (by decide)).len
      ·exact h.len
     ·exact h.len
    ·exact h.len
 ·split
  ·split
   ·exact h.row
   ·split
    ·exact h.row
    ·intro r hr
     dsimp only at hr
     rcases List.mem_or_eq_of_mem_set hr with hr | rfl
     ·exact h.row r hr
     ·rw [fillR_len]; exact getD_row h.row _
  ·split
   ·split
    ·split <;> exact h.row
    ·exact h.row
   ·split
    ·split
     ·split
      ·exact (h.kill (q := (· == c.order)) (st := 5) (by decide) (by decide) (by decide)).row
      ·exact h.row
     ·exact h.row
    ·exact h.row
 ·have hv := h.vn
  split
  ·split
   ·omega
   ·split <;> exact Nat.le_succ_of_le hv
  ·split
   ·split
    ·split
     ·exact Nat.le_succ_of_le hv
     ·dsimp only; rw [List.length_append, List.length_singleton]; omega
    ·dsimp only; rw [List.length_append, List.length_singleton]; omega
   ·split
    ·split
     ·split
      ·exact Nat.le_succ_of_le hv
      ·exact Nat.le_succ_of_le hv
     ·exact Nat.le_succ_of_le hv
    ·exact Nat.le_succ_of_le hv
theorem HB.hear {S : HZ} {N : Nat} (h : HB S N) {c : Cl} (hc : CV c) (hold : Int) : HB (hearM hold S c) (N + 1) := (h.lapse hold _).call hc
theorem HS.ext {fr : List (Nat × Blk)} {a : Nat} {rv : AV} {hold : Int} {S : HZ} {bl : List Blk} (h : HS fr a rv hold S bl) (l : List Blk) : HS fr a rv hold S (bl ++ l) := by
 obtain ⟨mid, rows, ords, vn, hw, hv, e1, e2⟩ := h.ex
 exact ⟨mid, rows, ords, vn, hw.app l, hv.ext l, e1, e2⟩
theorem lapse_HS {fr : List (Nat × Blk)} {a : Nat} {rv : AV} {hold : Int} {S : HZ} {N : Nat} {bl : List Blk} (h : HS fr a rv hold S bl) (hb : HB S N) (h0 : 0 ≤ hold) (h1 : hold ≤ 1000000) (m : Int) (ext : List Blk) (tk : List (Nat × Nat)) (K : AV → Mem → Prop)
  (hK : ∀ bl', HS fr a rv hold (lapseM hold m S) bl' → (∀ k, k < ext.length → bl'[bl.length + k]? = ext[k]?) → K (.tup []) ⟨bl', tk⟩) : WR ft (.f 53) [.ptr a 0 0, I64 m] ⟨bl ++ ext, tk⟩ K := by
 obtain ⟨mid, rows, ords, vn, hw, hv, e1, e2⟩ := h.ex
 have hS : stH rows ords S.vain = S := by unfold stH; rw [e1, e2]
 refine lapse_W (hw.app ext) (hv.ext ext) (by rw [hS]; exact hb.inv) h0 h1 (fun p hp => ?_) tk K fun rows' ords' bl' hw' hv' hs' _ hun => ?_
 ·have := hb.row p.2 (by rw [← e1]; exact List.mem_map.2 ⟨p, hp, rfl⟩)
  omega
 ·rw [hS] at hs'
  refine hK bl' ⟨mid, rows', ords', vn, hw', hv', by rw [← hs']; rfl, by rw [← hs']; rfl⟩ fun k hk => ?_
  rw [hun (bl.length + k) (by rw [List.length_append]; omega) (fun p hp e => by have := hw.rlt p hp; omega) fun p hp e => by have := hw.olt p hp; omega]
  exact gA bl ext k
theorem updO_st {ords : List Oe} (hno : (ords.map fun p => p.2.1).Nodup) (hnd : (ords.map fun p => p.1).Nodup) {n : Int} {b : Nat} {x : Od} (hx : (n, b, x) ∈ ords) (x' : Od) : stO (updO ords b x') = updM (stO ords) n x' := by
 unfold stO updO updM
 rw [List.map_map, List.map_map]
 apply List.map_congr_left
 intro p hp
 simp only [Function.comp]
 by_cases hb : p.2.1 = b
 ·have hpe : p = (n, b, x) := by
   have h1 := find_nd (fun x : Oe => x.2.1) hp hno
   have h2 := find_nd (fun x : Oe => x.2.1) hx hno
   dsimp only at h1 h2
   rw [hb, h2] at h1
   exact (Option.some.inj h1).symm
  rw [hpe, if_pos rfl, if_pos rfl]
 ·have hn : p.1 ≠ n := fun e => hb (by rw [mem_nodup_key hnd hp hx e])
  rw [if_neg hb, if_neg hn]
theorem lk_some {ords : List Oe} {n : Int} {b : Nat} {x : Od} (h : lkO ords n = some (b, x)) : lkP (stO ords) n = some x := by rw [lkO_st, h]; rfl
theorem lk_none {ords : List Oe} {n : Int} (h : lkO ords n = none) : lkP (stO ords) n = none := by rw [lkO_st, h]; rfl
theorem drop_HS {fr : List (Nat × Blk)} {a : Nat} {rv : AV} {hold : Int} {S : HZ} {N : Nat} {bl : List Blk} (h : HS fr a rv hold S bl) (hb : HB S N) (n : Int) (tk : List (Nat × Nat)) (K : AV → Mem → Prop)
  (hK : ∀ bl', HS fr a rv hold (dropM n S) bl' → K (.tup []) ⟨bl', tk⟩) : WR ft (.f 78) [.ptr a 0 0, I64 n] ⟨bl, tk⟩ K := by
 obtain ⟨mid, rows, ords, vn, hw, hv, e1, e2⟩ := h.ex
 have hnd : (ords.map fun p => p.1).Nodup := by rw [← keys_stO, e2]; exact hb.inv.nd
 have hplc : ∀ b x, lkO ords n = some (b, x) → (x.pc.st = 2 ∨ x.pc.st = 3) → ∃ (r s z : Nat) (q : Rw), x.pc.row = r ∧ x.pc.seat = s ∧ x.pc.size = z ∧ rows[r]? = some q ∧ q.2.length ≤ 1000 ∧ s + z ≤ q.2.length ∧ S.seats.set r (fillR q.2 s z (-1)) = offM (· == n) S.seats := fun b x hl h2 => by
  have hm : (n, x) ∈ S.ords := by rw [← e2]; exact List.mem_map.2 ⟨_, lkO_mem hl, rfl⟩
  have hbx : hasB x = true := by
   unfold hasB
   rcases h2 with h2 | h2 <;> rw [h2] <;> rfl
  obtain ⟨r, s, z, row, g1, g2, g3, g4, g5⟩ := hb.inv.inn _ hm hbx
  have hfo := hb.inv.fill_off hm hbx g1 g2 g3 g4 g5
  rw [← e1, List.getElem?_map] at g4
  cases hg : rows[r]? with
  | none => rw [hg] at g4; cases g4
  | some q =>
   rw [hg] at g4
   cases g4
   have := hb.row q.2 (by rw [← e1]; exact List.mem_map.2 ⟨q, List.mem_of_getElem? hg, rfl⟩)
   exact ⟨r, s, z, q, g1, g2, g3, hg, by omega, g5, hfo⟩
 refine drop_W hw hv tk n (fun b x hl h2 => by
  obtain ⟨r, s, z, q, g1, g2, g3, g4, g5, g6, _⟩ := hplc b x hl h2
  exact ⟨r, s, z, q, g1, g2, g3, g4, g5, g6⟩) K (fun hno => hK _ ?_) fun b x bl' hl h2 hw' hv' => hK _ ?_
 ·have : dropM n S = S := by
   unfold dropM
   rw [← e2]
   cases hl : lkO ords n with
   | none => rw [lk_none hl]
   | some p =>
    obtain ⟨b, x⟩ := p
    rw [lk_some hl]
    have := hno b x hl
    dsimp only
    rw [if_neg]
    unfold hasB
    intro e
    rw [Bool.or_eq_true, beq_iff_eq, beq_iff_eq] at e
    exact this e
  rw [this]
  exact h
 ·have hx := lkO_mem hl
  have hbx : hasB x = true := by
   unfold hasB
   rcases h2 with h2 | h2 <;> rw [h2] <;> rfl
  have hd : dropM n S = killM (· == n) 5 S := by
   unfold dropM
   rw [← e2, lk_some hl]
   dsimp only
   rw [if_pos hbx]
  obtain ⟨r, s, z, q, g1, g2, g3, g4, g5, g6, g7⟩ := hplc b x hl h2
  rw [hd]
  refine ⟨mid, freeS rows x, updO ords b (outO x 5), vn, hw', hv', ?_, ?_⟩
  ·show (freeS rows x).map Prod.snd = offM (· == n) S.seats
   unfold freeS
   rw [g1, g2, g3, Int.toNat_natCast, Int.toNat_natCast, Int.toNat_natCast, g4]
   dsimp only
   rw [List.map_set, e1, g7]
  ·rw [updO_st hw.no hnd hx, e2]
   show updM S.ords n (outO x 5) = S.ords.map fun p => if (p.1 == n) = true then (p.1, outO p.2 5) else p
   unfold updM
   apply List.map_congr_left
   intro p hp
   by_cases hc : p.1 = n
   ·have hpx : p.2 = x := mem_key hb.inv.nd (n := n) (by rw [← hc]; exact hp) (by rw [← e2]; exact List.mem_map.2 ⟨_, hx, rfl⟩)
    rw [if_pos hc, if_pos (by rw [hc]; simp), hpx, hc]
   ·rw [if_neg hc, if_neg (by simpa using hc)]
theorem pay_HS {fr : List (Nat × Blk)} {a : Nat} {rv : AV} {hold : Int} {S : HZ} {N : Nat} {bl : List Blk} (h : HS fr a rv hold S bl) (hb : HB S N) (hN : N ≤ 1000) (n : Int) (tk : List (Nat × Nat)) (K : AV → Mem → Prop)
  (hK : ∀ bl', HS fr a rv hold (payM n S) bl' → K (.tup []) ⟨bl', tk⟩) : WR ft (.f 77) [.ptr a 0 0, I64 n] ⟨bl, tk⟩ K := by
 obtain ⟨mid, rows, ords, vn, hw, hv, e1, e2⟩ := h.ex
 have hnd : (ords.map fun p => p.1).Nodup := by rw [← keys_stO, e2]; exact hb.inv.nd
 refine pay_W hw hv (by have := hb.vn; omega) tk n K (fun hno vn' bl' hw' hv' => hK _ ?_) fun b x hl h2 bl' hw' hv' => hK _ ?_
 ·have hp : payM n S = ⟨S.seats, S.ords, S.vain ++ [n]⟩ := by
   unfold payM
   cases hl : lkO ords n with
   | none => rw [← e2, lk_none hl]
   | some p =>
    obtain ⟨b, x⟩ := p
    rw [← e2, lk_some hl]
    dsimp only
    rw [if_neg (hno b x hl)]
  rw [hp]
  exact ⟨mid, rows, ords, vn', hw', hv', e1, e2⟩
 ·have hp : payM n S = ⟨S.seats, updM S.ords n (paidO x), S.vain⟩ := by
   unfold payM
   rw [← e2, lk_some hl]
   dsimp only
   rw [if_pos h2]
  rw [hp]
  exact ⟨mid, rows, _, vn, hw', hv', e1, by rw [updO_st hw.no hnd (lkO_mem hl), e2]⟩
theorem ask_HS {fr : List (Nat × Blk)} {a : Nat} {rv : AV} {hold : Int} {S : HZ} {N : Nat} {bl : List Blk} (h : HS fr a rv hold S bl) (hb : HB S N) {c : Cl} (hz : 1 ≤ c.size ∧ c.size ≤ 12) (tk : List (Nat × Nat)) (K : AV → Mem → Prop)
  (hK : ∀ bl', HS fr a rv hold (askM c S) bl' → K (.tup []) ⟨bl', tk⟩) : WR ft (.f 76) [.ptr a 0 0, encC c] ⟨bl, tk⟩ K := by
 obtain ⟨mid, rows, ords, vn, hw, hv, e1, e2⟩ := h.ex
 have hlen : rows.length ≤ 6 := by rw [← List.length_map (f := Prod.snd), e1]; exact hb.len
 refine ask_W hw hv tk c (z := c.size.toNat) (by omega) (by omega) (by omega) (by omega) (fun p hp => ?_) K (fun hl ext => hK _ ?_) (fun hl hbst bl' hw' hv' => hK _ ?_) fun r s q hl hbst hq bl' hw' hv' => hK _ ?_
 ·have := hb.row p.2 (by rw [← e1]; exact List.mem_map.2 ⟨p, hp, rfl⟩)
  omega
 ·have : askM c S = S := by
   unfold askM
   cases hl' : lkO ords c.order with
   | none => exact absurd hl' hl
   | some p => rw [← e2, lk_some (b := p.1) (x := p.2) hl']
  rw [this]
  exact h.ext ext
 ·have : askM c S = ⟨S.seats, S.ords ++ [(c.order, refO c)], S.vain⟩ := by
   unfold askM
   rw [← e2, lk_none hl, ← e1, ← bestM_ids, hbst]
  rw [this]
  refine ⟨mid, rows, _, vn, hw', hv', e1, ?_⟩
  rw [← e2]; unfold stO; rw [List.map_append]; rfl
 ·have : askM c S = ⟨seatM S.seats r s c.size.toNat c.order, S.ords ++ [(c.order, heldO c r s)], S.vain⟩ := by
   unfold askM
   rw [← e2, lk_none hl, ← e1, ← bestM_ids, hbst]
  rw [this]
  refine ⟨mid, _, _, vn, hw', hv', ?_, ?_⟩
  ·show _ = seatM S.seats r s c.size.toNat c.order
   unfold seatM
   rw [List.map_set, e1]
   congr 1
   rw [List.getD_eq_getElem?_getD, ← e1, List.getElem?_map, hq]; rfl
  ·show _ = S.ords ++ [(c.order, heldO c r s)]
   unfold updO
   rw [List.map_append, List.map_singleton, if_pos rfl]
   have : (ords.map fun p : Oe => if p.2.1 = bl.length + 1 then (p.1, bl.length + 1, heldO c r s) else p) = ords := by
    conv => rhs; rw [← List.map_id ords]
    apply List.map_congr_left
    intro p hp
    have := hw.olt p hp
    rw [if_neg (by omega)]; rfl
   rw [this, ← e2]
   unfold stO; rw [List.map_append]; rfl
theorem hear_W {fr : List (Nat × Blk)} {a : Nat} {rv : AV} {hold : Int} {S : HZ} {N : Nat} {bl : List Blk} (h : HS fr a rv hold S bl) (hb : HB S N) (hN : N ≤ 1000) (h0 : 0 ≤ hold) (h1 : hold ≤ 1000000) {c : Cl} (hc : CV c) (tk : List (Nat × Nat)) (K : AV → Mem → Prop)
  (hK : ∀ bl', HS fr a rv hold (hearM hold S c) bl' → K (.tup []) ⟨bl', tk⟩) : WR ft (.f 52) [.ptr a 0 0, encC c] ⟨bl, tk⟩ K := by
 rw [WR_f ft52 rfl]
 simp only [c52, r52]
 unfold hearM callM at hK
 simp only [go_sem, Nat.reduceEqDiff, Nat.reduceAdd, Nat.reduceLT, Nat.reduceLeDiff, reduceIte, gA0, List.getElem?_cons_zero, WB53]
 show WR ft (.f 53) _ _ _
 refine lapse_HS h hb h0 h1 c.at' [.live [encC c] 5] tk _ fun bl' h' hx => ?_
 have hL : bl'[bl.length]? = some (.live [encC c] 5) := by have := hx 0 (by simp); rwa [Nat.add_zero, List.getElem?_cons_zero] at this
 have hb' := hb.lapse hold c.at'
 cases k1 : (c.kind == 1)
 case true =>
  have k1' : c.kind = 1 := by simpa using k1
  rw [if_pos k1'] at hK
  simp only [go_sem, Nat.reduceEqDiff, Nat.reduceAdd, Nat.reduceLT, Nat.reduceLeDiff, reduceIte, hL, k1, CEta, WB76]
  show WR ft (.f 76) _ _ _
  refine ask_HS h' hb' (by rcases hc.kd with h | h | h <;> omega) tk _ fun bl2 h2 => ?_
  simp only [go_sem, Nat.reduceEqDiff, Nat.reduceAdd, Nat.reduceLT, Nat.reduceLeDiff, reduceIte]
  exact hK bl2 h2
 have k1' : c.kind ≠ 1 := by simpa using k1
 rw [if_neg k1'] at hK
 cases k2 : (c.kind == 2)
 case true =>
  have k2' : c.kind = 2 := by simpa using k2
  rw [if_pos k2'] at hK
  simp only [go_sem, Nat.reduceEqDiff, Nat.reduceAdd, Nat.reduceLT, Nat.reduceLeDiff, reduceIte, hL, k1, k2, CEta, WB77]
  show WR ft (.f 77) _ _ _
  refine pay_HS h' hb' hN c.order tk _ fun bl2 h2 => ?_
  simp only [go_sem, Nat.reduceEqDiff, Nat.reduceAdd, Nat.reduceLT, Nat.reduceLeDiff, reduceIte]
  exact hK bl2 h2
 have k2' : c.kind ≠ 2 := by simpa using k2
 rw [if_neg k2'] at hK
 have k3' : c.kind = 3 := by rcases hc.kd with h | h | h <;> omega
 have k3 : (c.kind == 3) = true := by simpa using k3'
 rw [if_pos k3'] at hK
 simp only [go_sem, Nat.reduceEqDiff, Nat.reduceAdd, Nat.reduceLT, Nat.reduceLeDiff, reduceIte, hL, k1, k2, k3, CEta, WB78]
 show WR ft (.f 78) _ _ _
 refine drop_HS h' hb' c.order tk _ fun bl2 h2 => ?_
 simp only [go_sem, Nat.reduceEqDiff, Nat.reduceAdd, Nat.reduceLT, Nat.reduceLeDiff, reduceIte]
 exact hK bl2 h2
end Go.Ab.T
end
