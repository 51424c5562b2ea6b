/-
 A part of the proofs over this seat.
 (The texts KqK49 KqK50, one behind the other.)
-/
import Derived.Test.YtlmhadnbcmjaeaaGreatP12
set_option linter.unusedSimpArgs false
set_option linter.unusedVariables false
set_option linter.unusedSectionVars false
section
namespace Go.Ab.T
set_option maxRecDepth 8000
set_option maxHeartbeats 4000000
theorem WV_of' {f : FuncId} {np : Nat} {c : ACode} {rs : List Res} {md : Md} (hf : ft f = some ⟨np, c, rs, md⟩) {as : List AV} {P : AV → Prop} (hl : as.length = np)
  (h : W ft c ⟨entry as, .nil⟩ (Fin rs fun u m => P (Ab.snap m dep u))) : ∃ v, RV ft f as v ∧ P v := by
 rw [← WR_f hf hl] at h
 obtain ⟨n, p, e, q⟩ := h
 exact ⟨_, ⟨n, by simp [callV, e]⟩, q⟩
theorem RH.setF {fr fr2 : List (Nat × Blk)} {sid pid nid : Nat} {rows : List Rw} {pcs : List Pc} {sn : List Int} {bl : List Blk} (h : RH fr sid pid nid rows pcs sn bl) {i : Nat} {B : Blk} (hi : (i, B) ∈ fr) (X : Blk) (hs : ∀ p ∈ fr2, p = (i, X) ∨ (p ∈ fr ∧ p.1 ≠ i)) : RH fr2 sid pid nid rows pcs sn (bl.set i X) := by
 obtain ⟨f1, f2, f3, f4, f5⟩ := h.fr' _ hi
 dsimp only at f1 f2 f3 f4 f5
 have hlt := (List.getElem?_eq_some_iff.1 f1).1
 refine ⟨by rw [List.getElem?_set_ne f2]; exact h.hs, fun p hp => by rw [List.getElem?_set_ne (f5 p hp).symm]; exact h.hr p hp, by rw [List.getElem?_set_ne f3]; exact h.hp, by rw [List.getElem?_set_ne f4]; exact h.hn, h.nd, h.rs, h.dn, fun p hp => ?_⟩
 rcases hs p hp with e | ⟨hp, hne⟩
 ·subst e; exact ⟨by dsimp only; rw [List.getElem?_set_self hlt], f2, f3, f4, f5⟩
 ·obtain ⟨g1, g2⟩ := h.fr' p hp
  exact ⟨by rw [List.getElem?_set_ne hne.symm]; exact g1, g2⟩
def encHV (S : HZ) (sn : List Int) : AV := .agg [encRows S.seats, .sl ((pcsM S).map encPc) .unk, encIs sn, encIs S.vain]
theorem snS {rows : List Rw} {sid : Nat} {bl : List Blk} (hs : bl[sid]? = some (.live (rows.map refR) 1)) (hr : ∀ p ∈ rows, bl[p.1]? = some (.live (iL p.2) 1)) (tk : List (Nat × Nat)) (q : Nat) : Ab.snap ⟨bl, tk⟩ (q + 4) (.ref sid 0 rows.length) = encRows (rows.map Prod.snd) := by
 rw [snap_ref, elems_ref, hs, elBlk_live, if_pos (by rw [List.length_map]; omega), List.drop_zero, List.take_of_length_le (by rw [List.length_map]; omega)]
 exact snRefs hr tk .unk q
theorem snPs {pcs : List Pc} {pid : Nat} {bl : List Blk} (hp : bl[pid]? = some (.live (pcs.map encPc) 4)) (tk : List (Nat × Nat)) (q : Nat) : Ab.snap ⟨bl, tk⟩ (q + 4) (.ref pid 0 pcs.length) = .sl (pcs.map encPc) .unk := by
 rw [snap_ref, elems_ref, hp, elBlk_live, if_pos (by rw [List.length_map]; omega), List.drop_zero, List.take_of_length_le (by rw [List.length_map]; omega)]
 show AV.sl ((pcs.map encPc).map (Ab.snap _ (q + 3))) .unk = _
 rw [List.map_map]; rfl
theorem snHo {fr : List (Nat × Blk)} {S : HZ} {sid pid nid : Nat} {rows : List Rw} {pcs : List Pc} {sn : List Int} {bl : List Blk} {vn : AV} {tk tk' : List (Nat × Nat)} (h : RH fr sid pid nid rows pcs sn bl) (hA : AR S rows pcs sn) (hv : AppV 3 (iL S.vain) vn tk') : Ab.snap ⟨bl, tk⟩ 12 (encHo sid pid nid rows.length vn) = encHV S sn := by
 have h1 := snS h.hs h.hr tk 7
 have h2 := snPs h.hp tk 7
 have h3 := snap_row (m := ⟨bl, tk⟩) h.hn 8
 obtain ⟨t, rfl⟩ := hv.sl
 have h4 := snap_iL ⟨bl, tk⟩ 9 S.vain t
 rw [hA.rw'] at h1
 rw [hA.pc, pcsM_len, ← hA.pc] at h2
 rw [hA.sl] at h3
 show AV.agg [Ab.snap ⟨bl, tk⟩ 11 (.ref sid 0 rows.length), Ab.snap ⟨bl, tk⟩ 11 (.ref pid 0 100), Ab.snap ⟨bl, tk⟩ 11 (.ref nid 0 100), Ab.snap ⟨bl, tk⟩ 11 (.sl (iL S.vain) t)] = _
 rw [h1, h2, h3, h4, hA.pc]; rfl
theorem filter_take {H : List Cl} (ha : asc H) (hv : ∀ c ∈ H, CV c) {m : Int} {k : Nat} (hb : ∀ c ∈ H.take k, c.at' ≤ m) (hk : H.drop k = [] ∨ ∃ c r, H.drop k = c :: r ∧ m < c.at') : (H.filter fun c => decide (c.at' ≤ m)) = H.take k := by
 have h1 : ((H.take k).filter fun c => decide (c.at' ≤ m)) = H.take k := List.filter_eq_self.2 fun c hc => decide_eq_true (hb c hc)
 have h2 : ((H.drop k).filter fun c => decide (c.at' ≤ m)) = [] := by
  rcases hk with e | ⟨c, r, e, hm⟩
  ·rw [e]; rfl
  ·rw [List.filter_eq_nil_iff]
   intro d hd e2
   have e2 := of_decide_eq_true e2
   have hcm : ∀ x ∈ c :: r, x ∈ H := fun x hx => List.mem_of_mem_drop (by rw [e]; exact hx)
   rw [e] at hd
   rcases List.mem_cons.1 hd with e3 | hd
   ·rw [e3] at e2; omega
   ·unfold asc at ha
    rw [← List.take_append_drop k H, List.pairwise_append, e, List.pairwise_cons] at ha
    have hk := ha.2.1.1 d hd
    have hc := hv c (hcm c (by simp))
    have h2 := hv d (hcm d (by simp [hd]))
    have := hc.i0; have := hc.i1; have := h2.i0; have := h2.i1
    unfold keyC at hk
    omega
 conv => lhs; rw [← List.take_append_drop k H]
 rw [List.filter_append, h1, h2, List.append_nil]
def zHo : AV := .agg [.sl [] .tight, .sl [] .tight, .sl [] .tight, .sl [] .tight]
def frH (hl : Hl) (a7 sid pid nid nr : Nat) (vn : AV) : List (Nat × Blk) := [(0, .live [encH hl] 2), (1, .live [zHo] 4), (a7, .live [encHo sid pid nid nr vn] 4)]
structure AH (hl : Hl) (a7 : Nat) (S : HZ) (bl : List Blk) (tk : List (Nat × Nat)) : Prop where
 ge : 2 ≤ a7
 ex : ∃ sid pid nid rows pcs sn vn, RH (frH hl a7 sid pid nid rows.length vn) sid pid nid rows pcs sn bl ∧ AR S rows pcs sn ∧ AppV 3 (iL S.vain) vn tk
theorem AppV.sol {es : List AV} {v : AV} {tk : List (Nat × Nat)} {T : Nat} (h : AppV T es v tk) : v.cells = [v] ∧ v.solid = true := by
 obtain ⟨t, rfl⟩ := h.sl
 exact ⟨rfl, rfl⟩
theorem AR.empty {rows : List Rw} {sizes : List Int} (h : rows.map Prod.snd = (emptyM sizes).seats) : AR (emptyM sizes) rows (List.replicate 100 ⟨0, -1, -1, 0⟩) (List.replicate 100 0) := by
 refine ⟨h, ?_, by simp, fun x hx => ?_, fun n x hx => (nomatch hx)⟩
 ·unfold pcsM
  have : (fun n : Nat => plcM (emptyM sizes) n) = fun _ => (⟨0, -1, -1, 0⟩ : Pc) := rfl
  rw [this, List.map_const']; simp
 ·rw [List.eq_of_mem_replicate hx]; decide
theorem dropM_yes {T : HZ} (hI : HInv T) {n : Int} {x : Od} (hx : (n, x) ∈ T.ords) (hb : hasB x = true) : dropM n T = killM (· == n) 5 T := by
 unfold dropM; rw [lkP_of hI.nd hx]; dsimp only; rw [if_pos hb]
theorem dropM_no {T : HZ} (hI : HInv T) {n : Int} (h2 : (plcM T n).st ≠ 2) (h3 : (plcM T n).st ≠ 3) : dropM n T = T := by
 unfold dropM
 rcases plcM_spec hI n with ⟨e, hl⟩ | ⟨x, hx, hl, e⟩
 ·rw [hl]
 ·rw [hl]
  rw [e] at h2 h3
  dsimp only
  rw [if_neg (by rw [hasB_iff]; omega)]
theorem plc_ex {T : HZ} (hI : HInv T) {n : Int} (h : (plcM T n).st ≠ 0) : ∃ x, (n, x) ∈ T.ords ∧ lkP T.ords n = some x ∧ plcM T n = x.pc := by
 rcases plcM_spec hI n with ⟨e, hl⟩ | ⟨x, hx, hl, e⟩
 ·rw [e] at h; exact absurd rfl h
 ·exact ⟨x, hx, hl, e⟩
theorem plc_zero {T : HZ} (hI : HInv T) {n : Int} (h : (plcM T n).st = 0) : lkP T.ords n = none := by
 rcases plcM_spec hI n with ⟨e, hl⟩ | ⟨x, hx, hl, e⟩
 ·exact hl
 ·have := hI.sts _ hx
  rw [e] at h; dsimp only at this; omega
theorem payM_yes {T : HZ} (hI : HInv T) {n : Int} {x : Od} (hx : (n, x) ∈ T.ords) (hb : x.pc.st = 2) : payM n T = ⟨T.seats, updM T.ords n (paidO x), T.vain⟩ := by
 unfold payM; rw [lkP_of hI.nd hx]; dsimp only; rw [if_pos hb]
theorem payM_no {T : HZ} (hI : HInv T) {n : Int} (h2 : (plcM T n).st ≠ 2) : payM n T = ⟨T.seats, T.ords, T.vain ++ [n]⟩ := by
 unfold payM
 rcases plcM_spec hI n with ⟨e, hl⟩ | ⟨x, hx, hl, e⟩
 ·rw [hl]
 ·rw [hl]
  rw [e] at h2
  dsimp only
  rw [if_neg h2]
theorem frH_set {h : Hl} {a7 sid pid nid nr : Nat} {vn v' : AV} (hge : 2 ≤ a7) (f : List (Nat × Blk)) : ∀ p ∈ frH h a7 sid pid nid nr v', p = (a7, .live [encHo sid pid nid nr v'] 4) ∨ (p ∈ f ++ frH h a7 sid pid nid nr vn ∧ p.1 ≠ a7) := fun p hp => by
 unfold frH at hp ⊢
 simp only [List.mem_cons, List.not_mem_nil, or_false, List.mem_append] at hp ⊢
 rcases hp with e | e | e
 ·exact .inr ⟨.inr (.inl e), by rw [e]; dsimp only; omega⟩
 ·exact .inr ⟨.inr (.inr (.inl e)), by rw [e]; dsimp only; omega⟩
 ·exact .inl e
theorem After_ok (h : Hl) (l : List Cl) (m : Int) (ho : okH h = true) (hr0 : h.rows ≠ []) (hl40 : l.length ≤ 40) (hcv : ∀ c ∈ l, CV c) (hnc : noCl l) : ∃ v, RV ft 35 [encH h, encCs l, I64 m] v ∧ ∃ sn, v = encHV (afterM h l m) sn := by
 obtain ⟨hx, hr6, hh1, hh2⟩ := okH_all ho
 refine WV_of' ft35 rfl ?_
 simp only [c35, r35]
 have hHl : (heardM l).length ≤ 40 := Nat.le_trans heard_len hl40
 have hHv : ∀ c ∈ heardM l, CV c := fun c hc => hcv c (heard_sub l c hc)
 have hHd := heardR_ok l (by omega) hnc hcv
 simp only [go_sem, Nat.reduceEqDiff, Nat.reduceAdd, Nat.reduceLT, Nat.reduceLeDiff, reduceIte, gA0, sA0, List.getElem?_cons_zero, List.getElem?_cons_succ, List.set_cons_zero, List.set_cons_succ, List.append_assoc, List.cons_append, List.nil_append, List.length_append, List.length_cons, List.length_nil, HEta, HCells, WB54]
 show WR ft (.f 54) [encH h] ⟨[.live [encH h] 2, .live [zHo] 4], []⟩ _
 refine Empty_WR h hx hr6 hr0 (fr := [(0, .live [encH h] 2), (1, .live [zHo] 4)]) (fun p hp => ?_) [] _ fun sid pid nid rows bl0 hR0 hsd0 => ?_
 ·simp only [List.mem_cons, List.not_mem_nil, or_false] at hp
  rcases hp with e | e <;> rw [e] <;> rfl
 have hwz : ∀ v : AV, writeCells (.agg [.sl [] .tight, .sl [] .tight, .sl [] .tight, .sl [] .tight]) 0 [.ref sid 0 rows.length, .ref pid 0 100, .ref nid 0 100, v] = some (encHo sid pid nid rows.length v) := fun _ => rfl
 have hsv : (AV.sl [] .tight).solid = true := rfl
 simp only [go_sem, Nat.reduceEqDiff, Nat.reduceAdd, Nat.reduceLT, Nat.reduceLeDiff, reduceIte, gA0, sA0, List.getElem?_cons_zero, List.set_cons_zero, HoCells, hwz, hsv, WB55, snCs, hotCs, WVH_eq hHd, true_and]
 have hS0 : AH h bl0.length (emptyM h.rows) (bl0 ++ [.live [encHo sid pid nid rows.length (.sl [] .tight)] 4]) [] := by
  have h2 := hR0.addF (l := [.live [encHo sid pid nid rows.length (.sl [] .tight)] 4]) (k := 0) rfl
  have hlt : 1 < bl0.length := (List.getElem?_eq_some_iff.1 (hR0.fr' (1, .live [zHo] 4) (by simp)).1).1
  refine ⟨by omega, sid, pid, nid, rows, _, _, .sl [] .tight, h2.sub fun p hp => ?_, AR.empty hsd0, .inl ⟨rfl, rfl⟩⟩
  unfold frH at hp
  simp only [List.mem_cons, List.not_mem_nil, or_false] at hp ⊢
  rcases hp with e | e | e
  ·exact .inr (.inl e)
  ·exact .inr (.inr e)
  ·exact .inl e
 generalize bl0.length = a7 at hS0 ⊢
 refine WL_inv (α := Nat × List Cl) (fun q e mm => e 2 = I64 m ∧ e 3 = .ptr 0 0 0 ∧ e 6 = .ptr 1 0 0 ∧ e 7 = .ptr a7 0 0 ∧ e 8 = encCs (heardM l) ∧ e 9 = I64 q.1 ∧ (heardM l).drop q.1 = q.2 ∧ (∀ c ∈ (heardM l).take q.1, c.at' ≤ m) ∧ ∃ bl tk, mm = ⟨bl, tk⟩ ∧ AH h a7 (((heardM l).take q.1).foldl (hearM h.hold) (emptyM h.rows)) bl tk ∧ HB (((heardM l).take q.1).foldl (hearM h.hold) (emptyM h.rows)) q.1) (fun q => q.2.length) (0, heardM l) ?_ ?_
 ·simp only [go_sem, Nat.reduceEqDiff, Nat.reduceAdd, Nat.reduceLT, Nat.reduceLeDiff, reduceIte]
  exact ⟨t_, t_, t_, t_, t_, rfl, t_, fun c hc => (nomatch hc), _, [], rfl, hS0, HB.empty ho⟩
 clear hS0 hR0 hsd0 hwz bl0 sid pid nid rows
 rintro ⟨k, r⟩ e mm ⟨g2, g3, g6, g7, g8, g9, hd, hb, bl, tk, rfl, hAH, hB⟩
 dsimp only at g9 hd hb hAH hB
 generalize hSd : ((heardM l).take k).foldl (hearM h.hold) (emptyM h.rows) = S at hAH hB
 obtain ⟨hge, sid, pid, nid, rows, pcs, sn, vn, hR, hA, hV⟩ := hAH
 have hn3 := fun (x : Nat × Blk) (hx : x ∈ frH h a7 sid pid nid rows.length vn) => (hR.fr' x hx).1
 have hb0 : bl[0]? = some (.live [encH h] 2) := hn3 (0, _) (by unfold frH; simp)
 have hb1 : bl[1]? = some (.live [zHo] 4) := hn3 (1, _) (by unfold frH; simp)
 have hb7 : bl[a7]? = some (.live [encHo sid pid nid rows.length vn] 4) := hn3 (a7, _) (by unfold frH; simp)
 have hrl : rows.length ≤ 6 := by rw [← List.length_map (f := Prod.snd), hA.rw']; exact hB.len
 have hr12 : ∀ p ∈ rows, p.2.length ≤ 12 := fun p hp => hB.row p.2 (by rw [← hA.rw']; exact List.mem_map.2 ⟨p, hp, rfl⟩)
 have hp100 : pcs.length = 100 := by rw [hA.pc, pcsM_len]
 obtain ⟨hvc, hvs⟩ := hV.sol
 have hafter : ((heardM l).drop k = [] ∨ ∃ c r, (heardM l).drop k = c :: r ∧ m < c.at') → afterM h l m = lapseM h.hold m S := fun hc => by
  unfold afterM; rw [filter_take (heard_asc l) hHv hb hc, hSd]
 have hlD : ∀ q, (rowsD q rows).length = rows.length := fun q => by unfold rowsD; rw [List.length_map]
 have hwz : writeCells zHo 0 [.ref sid 0 rows.length, .ref pid 0 100, .ref nid 0 100, vn] = some (encHo sid pid nid rows.length vn) := rfl
 cases r with
 | nil =>
  have h3 := drop_nil hd
  simp only [go_sem, Nat.reduceEqDiff, Nat.reduceAdd, Nat.reduceLT, Nat.reduceLeDiff, reduceIte, g2, g3, g6, g7, g8, g9, Cs_len, dec_ge h3, hb0, hb7, HEta, HCells, HoCells, hvc, hvs, WB56]
  show WR ft (.f 56) [encH h, encHo sid pid nid rows.length vn, I64 m] ⟨bl, tk⟩ _
  refine lapse_WR hR vn hvc hvs hp100 hA.sl hA.sb hrl hr12 h (by omega) (by omega) m tk _ fun bl2 hR2 => ?_
  have hb1 := (hR2.fr' (1, .live [zHo] 4) (by unfold frH; simp)).1
  have hb7 := (hR2.fr' (a7, .live [encHo sid pid nid rows.length vn] 4) (by unfold frH; simp)).1
  dsimp only at hb1 hb7
  have hlt1 : 1 < bl2.length := (List.getElem?_eq_some_iff.1 hb1).1
  simp only [go_sem, Nat.reduceEqDiff, Nat.reduceAdd, Nat.reduceLT, Nat.reduceLeDiff, reduceIte, g6, g7, hb1, hb7, HoCells, hvc, hvs, hwz, List.getElem?_set_self hlt1]
  refine ⟨sn, ?_⟩
  rw [hafter (.inl hd), ← hlD (lqU pcs sn h.hold m 100)]
  exact snHo (hR2.setF (fr2 := []) (i := 1) (B := .live [zHo] 4) (by unfold frH; simp) _ fun p hp => (nomatch hp)) (hA.lapse hB.inv h.hold m) hV
 | cons c r =>
  obtain ⟨hk, hd2, hlt⟩ := drop_cons hd
  have hcc := hHv c (List.mem_of_getElem? hk)
  have hb0x := gB hb0 [Blk.live [encC c] 5]
  have hb7x := gB hb7 [Blk.live [encC c] 5]
  cases hcm : decide (m < c.at')
  case true =>
   have hcm' := of_decide_eq_true hcm
   simp only [go_sem, Nat.reduceEqDiff, Nat.reduceAdd, Nat.reduceLT, Nat.reduceLeDiff, reduceIte, g2, g3, g6, g7, g8, g9, Cs_len, dec_lt hlt, Cs_idx hk, gA0, sA0, List.set_cons_zero, List.getElem?_cons_zero, CCells, CEta, hcm, hb0x, hb7x, HEta, HCells, HoCells, hvc, hvs, WB56]
   show WR ft (.f 56) [encH h, encHo sid pid nid rows.length vn, I64 m] ⟨bl ++ [Blk.live [encC c] 5], tk⟩ _
   refine lapse_WR (hR.ext _) vn hvc hvs hp100 hA.sl hA.sb hrl hr12 h (by omega) (by omega) m tk _ fun bl2 hR2 => ?_
   have hb1 := (hR2.fr' (1, .live [zHo] 4) (by unfold frH; simp)).1
   have hb7 := (hR2.fr' (a7, .live [encHo sid pid nid rows.length vn] 4) (by unfold frH; simp)).1
   dsimp only at hb1 hb7
   have hlt1 : 1 < bl2.length := (List.getElem?_eq_some_iff.1 hb1).1
   simp only [go_sem, Nat.reduceEqDiff, Nat.reduceAdd, Nat.reduceLT, Nat.reduceLeDiff, reduceIte, g6, g7, hb1, hb7, HoCells, hvc, hvs, hwz, List.getElem?_set_self hlt1]
   refine ⟨sn, ?_⟩
   rw [hafter (.inr ⟨c, r, hd, hcm'⟩), ← hlD (lqU pcs sn h.hold m 100)]
   exact snHo (hR2.setF (fr2 := []) (i := 1) (B := .live [zHo] 4) (by unfold frH; simp) _ fun p hp => (nomatch hp)) (hA.lapse hB.inv h.hold m) hV
  have hcm' := of_decide_eq_false hcm
  obtain ⟨n, hn⟩ : ∃ n : Nat, c.order = n := ⟨c.order.toNat, by have := hcc.o0; omega⟩
  have hn1 : n < 100 := by have := hcc.o1; omega
  simp only [go_sem, Nat.reduceEqDiff, Nat.reduceAdd, Nat.reduceLT, Nat.reduceLeDiff, reduceIte, g2, g3, g6, g7, g8, g9, Cs_len, dec_lt hlt, Cs_idx hk, gA0, sA0, List.set_cons_zero, List.getElem?_cons_zero, CCells, CEta, hcm, hb0x, hb7x, HEta, HCells, HoCells, hvc, hvs, WB56]
  show WR ft (.f 56) [encH h, encHo sid pid nid rows.length vn, I64 c.at'] ⟨bl ++ [Blk.live [encC c] 5], tk⟩ _
  refine lapse_WR (hR.addF (l := [.live [encC c] 5]) (k := 0) rfl) vn hvc hvs hp100 hA.sl hA.sb hrl hr12 h (by omega) (by omega) c.at' tk _ fun bl2 hR2 => ?_
  have hAT := hA.lapse hB.inv h.hold c.at'
  have hBT := hB.lapse h.hold c.at'
  have hHT : hearM h.hold S c = callM c (lapseM h.hold c.at' S) := rfl
  have hVT : AppV 3 (iL (lapseM h.hold c.at' S).vain) vn tk := hV
  rw [← hlD (lqU pcs sn h.hold c.at' 100)] at hR2 hwz
  have hBS := hB.hear hcc h.hold
  rw [hHT] at hBS
  have htk : ((heardM l).take (k + 1)).foldl (hearM h.hold) (emptyM h.rows) = callM c (lapseM h.hold c.at' S) := by
   rw [take_snoc hk, foldl_snoc', hSd]; rfl
  have hb2 : ∀ c ∈ (heardM l).take (k + 1), c.at' ≤ m := fun d hd => by
   rw [take_snoc hk] at hd
   rcases List.mem_append.1 hd with e | e
   ·exact hb d e
   ·rw [List.mem_singleton] at e; rw [e]; omega
  rw [← hlD (lqU pcs sn h.hold c.at' 100)] at hrl
  have hr12 : ∀ p ∈ rowsD (lqU pcs sn h.hold c.at' 100) rows, p.2.length ≤ 12 := fun p hp => hBT.row p.2 (by rw [← hAT.rw']; exact List.mem_map.2 ⟨p, hp, rfl⟩)
  have hp100 : (lpP pcs sn h.hold c.at' 100).length = 100 := by rw [hAT.pc, pcsM_len]
  clear hb7x hb0x hHT hV hafter hb0 hb1 hb7 hn3 hb hB hA hR
  generalize rowsD (lqU pcs sn h.hold c.at' 100) rows = rows2 at *
  generalize lpP pcs sn h.hold c.at' 100 = pcs2 at *
  generalize lapseM h.hold c.at' S = T at *
  clear hSd hlD
  rw [Nat.add_zero] at hR2
  have hbL : bl2[bl.length]? = some (.live [encC c] 5) := (hR2.fr' (bl.length, .live [encC c] 5) (by simp)).1
  have hb7 : bl2[a7]? = some (.live [encHo sid pid nid rows2.length vn] 4) := (hR2.fr' (a7, .live [encHo sid pid nid rows2.length vn] 4) (by unfold frH; simp)).1
  have hpc : pcs2[n]? = some (plcM T n) := by rw [hAT.pc, pcsM_get T hn1]
  have hin := idx_rf (m := ⟨bl2, tk⟩) hR2.hp hn1
  have hpa := pcs_at hpc
  generalize hpcE : plcM T n = pc at hpc hpa
  have hR3 := hR2.ext [.live [encPc pc] 4]
  have hbLx := gB hbL [.live [encPc pc] 4]
  have hb7x := gB hb7 [.live [encPc pc] 4]
  have hbP := gA0 bl2 [.live [encPc pc] 4]
  have hin3 := idx_rf (m := ⟨bl2 ++ [.live [encPc pc] 4], tk⟩) hR3.hp hn1
  have hk40 : k < 40 := by omega
  cases k1 : (c.kind == 1)
  ·have k1' : c.kind ≠ 1 := by simpa using k1
   cases k2 : (c.kind == 2)
   ·have k2' : c.kind ≠ 2 := by simpa using k2
    have k3 : c.kind = 3 := by rcases hcc.kd with h | h | h <;> omega
    have hcM : callM c T = dropM n T := by unfold callM; rw [if_neg k1', if_neg k2', if_pos k3, hn]
    have k3' : (c.kind == 3) = true := by simpa using k3
    by_cases hst : pc.st = 2 ∨ pc.st = 3
    ·obtain ⟨x, hx, _, ex⟩ := plc_ex hBT.inv (n := (n : Int)) (by rw [hpcE]; omega)
     rw [hpcE] at ex
     have hcK : callM c T = killM (· == (n : Int)) 5 T := by rw [hcM, dropM_yes hBT.inv hx ((hasB_iff x).2 (by rw [← ex]; exact hst))]
     have hpk : ((pc.st == 2) || (pc.st == 3)) = true := by simpa using hst
     cases e2 : (pc.st == 2) <;> cases e3 : (pc.st == 3)
     ·rw [e2, e3] at hpk; cases hpk
     all_goals
      simp only [go_sem, Nat.reduceEqDiff, Nat.reduceAdd, Nat.reduceLT, Nat.reduceLeDiff, reduceIte, g6, g7, hb7, hbL, hb7x, hbLx, hbP, List.getElem?_cons_zero, sA0, List.set_cons_zero, HoCells, CCells, hn, hin, hR2.hp, hpa, PcCells, PcEta, k1, k2, k3', e2, e3, hvc, hvs, WB57]
      show WR ft (.f 57) [encHo sid pid nid rows2.length vn, I64 (n : Int), I64 5] ⟨bl2 ++ [Blk.live [encPc pc] 4], tk⟩ _
      refine leave_WR hR3 vn hvc hvs hp100 hrl hr12 hn1 hpc 5 tk _ fun bl4 hR4 => ?_
      simp only [go_sem, Nat.reduceEqDiff, Nat.reduceAdd, Nat.reduceLT, Nat.reduceLeDiff, reduceIte, g2, g3, g6, g7, g8, g9, wrap_n1 k (by omega)]
      refine Nx_of (k + 1, r) (show r.length < (c :: r).length by simp) ?_
      simp only [go_sem, Nat.reduceEqDiff, Nat.reduceAdd, Nat.reduceLT, Nat.reduceLeDiff, reduceIte, g2, g3, g6, g7, g8]
      refine ⟨t_, t_, t_, t_, t_, t_, hd2, hb2, _, tk, rfl, ?_, ?_⟩
      ·rw [htk, hcK]
       have hlr : (rowsD (· == (n : Int)) rows2).length = rows2.length := by unfold rowsD; rw [List.length_map]
       refine ⟨hge, sid, pid, nid, _, _, sn, vn, ?_, hAT.kill hBT.inv hn1 hx (by decide) (by decide) (by decide), hVT⟩
       rw [hlr, ← ex]
       exact hR4.sub fun p hp => List.mem_cons_of_mem _ hp
      ·rw [htk]; exact hBS
    ·have hcK : callM c T = T := by rw [hcM, dropM_no hBT.inv (by rw [hpcE]; omega) (by rw [hpcE]; omega)]
     have e2 : (pc.st == 2) = false := beq_eq_false_iff_ne.2 (by omega)
     have e3 : (pc.st == 3) = false := beq_eq_false_iff_ne.2 (by omega)
     simp only [go_sem, Nat.reduceEqDiff, Nat.reduceAdd, Nat.reduceLT, Nat.reduceLeDiff, reduceIte, g6, g7, hb7, hbL, hb7x, hbLx, hbP, List.getElem?_cons_zero, sA0, List.set_cons_zero, HoCells, CCells, hn, hin, hR2.hp, hpa, PcCells, PcEta, k1, k2, k3', e2, e3, g9, wrap_n1 k (by omega)]
     refine Nx_of (k + 1, r) (show r.length < (c :: r).length by simp) ?_
     simp only [go_sem, Nat.reduceEqDiff, Nat.reduceAdd, Nat.reduceLT, Nat.reduceLeDiff, reduceIte, g2, g3, g6, g7, g8]
     refine ⟨t_, t_, t_, t_, t_, t_, hd2, hb2, _, tk, rfl, ?_, ?_⟩
     ·rw [htk, hcK]
      exact ⟨hge, sid, pid, nid, rows2, pcs2, sn, vn, hR3.sub fun p hp => List.mem_cons_of_mem _ hp, hAT, hVT⟩
     ·rw [htk]; exact hBS
   ·have k2' : c.kind = 2 := by simpa using k2
    have hcM : callM c T = payM n T := by unfold callM; rw [if_neg k1', if_pos k2', hn]
    cases e2 : (pc.st == 2)
    ·have e2' : pc.st ≠ 2 := by simpa using e2
     have hcK : callM c T = ⟨T.seats, T.ords, T.vain ++ [(n : Int)]⟩ := by rw [hcM, payM_no hBT.inv (by rw [hpcE]; exact e2')]
     simp only [go_sem, Nat.reduceEqDiff, Nat.reduceAdd, Nat.reduceLT, Nat.reduceLeDiff, reduceIte, g6, g7, hb7, hbL, hb7x, hbLx, hbP, List.getElem?_cons_zero, sA0, List.set_cons_zero, HoCells, CCells, hn, hin, hR2.hp, hpa, PcCells, PcEta, k1, k2, e2, hvc, hvs]
     refine AppV.app (es := iL T.vain) (y := I64 n) (sz := 1) hVT (fun e he => by
      obtain ⟨v, _, rfl⟩ := List.mem_map.1 he; rfl) rfl (by rw [iL_len]; have := hBT.vn; unfold limit; omega) fun v' tk' hv' _ => ?_
     obtain ⟨hvc', hvs'⟩ := hv'.sol
     have hwE : writeCells (.agg [.ref sid 0 rows2.length, .ref pid 0 100, .ref nid 0 100, vn]) 3 [v'] = some (encHo sid pid nid rows2.length v') := rfl
     have hwE' : writeCells (encHo sid pid nid rows2.length vn) 3 [v'] = some (encHo sid pid nid rows2.length v') := rfl
     have halt : a7 < bl2.length := (List.getElem?_eq_some_iff.1 hb7).1
     simp only [go_sem, Nat.reduceEqDiff, Nat.reduceAdd, Nat.reduceLT, Nat.reduceLeDiff, reduceIte, g2, g3, g6, g7, g8, g9, hb7x, hvc', hvs', hwE, hwE', wrap_n1 k (by omega)]
     refine Nx_of (k + 1, r) (show r.length < (c :: r).length by simp) ?_
     simp only [go_sem, Nat.reduceEqDiff, Nat.reduceAdd, Nat.reduceLT, Nat.reduceLeDiff, reduceIte, g2, g3, g6, g7, g8]
     refine ⟨t_, t_, t_, t_, t_, t_, hd2, hb2, _, tk', rfl, ?_, ?_⟩
     ·rw [htk, hcK]
      refine ⟨hge, sid, pid, nid, rows2, pcs2, sn, v', ?_, hAT.vain _, by rw [iL_app]; exact hv'⟩
      exact hR3.setF (i := a7) (B := .live [encHo sid pid nid rows2.length vn] 4) (by unfold frH; simp) _ (frH_set (f := [(bl.length, .live [encC c] 5)]) hge)
     ·rw [htk]; exact hBS
    ·have e2' : pc.st = 2 := by simpa using e2
     obtain ⟨x, hx, _, ex⟩ := plc_ex hBT.inv (n := (n : Int)) (by rw [hpcE]; omega)
     rw [hpcE] at ex
     have hcK : callM c T = ⟨T.seats, updM T.ords n (paidO x), T.vain⟩ := by rw [hcM, payM_yes hBT.inv hx (by rw [← ex]; exact e2')]
     have hwp3 : writeCells (encPc pc) 0 [I64 3] = some (encPc ⟨3, pc.row, pc.seat, pc.size⟩) := rfl
     simp only [go_sem, Nat.reduceEqDiff, Nat.reduceAdd, Nat.reduceLT, Nat.reduceLeDiff, reduceIte, g6, g7, hb7, hbL, hb7x, hbLx, hbP, List.getElem?_cons_zero, sA0, List.set_cons_zero, HoCells, CCells, hn, hin, hin3, hR2.hp, hR3.hp, hpa, PcCells, PcEta, k1, k2, e2, hvc, hvs, hwp3, pcs_set, g9, wrap_n1 k (by omega)]
     refine Nx_of (k + 1, r) (show r.length < (c :: r).length by simp) ?_
     simp only [go_sem, Nat.reduceEqDiff, Nat.reduceAdd, Nat.reduceLT, Nat.reduceLeDiff, reduceIte, g2, g3, g6, g7, g8]
     refine ⟨t_, t_, t_, t_, t_, t_, hd2, hb2, _, tk, rfl, ?_, ?_⟩
     ·rw [htk, hcK]
      refine ⟨hge, sid, pid, nid, rows2, _, sn, vn, (hR3.setP _).sub fun p hp => List.mem_cons_of_mem _ hp, ?_, hVT⟩
      have := hAT.paid hBT.inv hn1 hx (by rw [← ex]; exact e2')
      rw [← ex] at this; exact this
     ·rw [htk]; exact hBS
  ·have k1' : c.kind = 1 := by simpa using k1
   have hcM : callM c T = askM c T := by unfold callM; rw [if_pos k1']
   cases e0 : (pc.st != 0)
   ·have e0' : pc.st = 0 := by simpa using e0
    have hlk : lkP T.ords c.order = none := by rw [hn]; exact plc_zero hBT.inv (by rw [hpcE]; exact e0')
    have hsz : 1 ≤ c.size ∧ c.size ≤ 12 := by rcases hcc.kd with h | h | h <;> omega
    obtain ⟨z, hz⟩ : ∃ z : Nat, c.size = z := ⟨c.size.toNat, by omega⟩
    have hbest := bestR_ok T.seats z (by omega) (by omega) hBT.len hBT.row
    have hsnS := snS hR3.hs hR3.hr tk 8
    rw [hAT.rw'] at hsnS
    simp only [go_sem, Nat.reduceEqDiff, Nat.reduceAdd, Nat.reduceLT, Nat.reduceLeDiff, reduceIte, g6, g7, hb7, hbL, hb7x, hbLx, hbP, List.getElem?_cons_zero, sA0, List.set_cons_zero, HoCells, CCells, hn, hin, hR2.hp, hpa, PcCells, PcEta, k1, e0, hz, WB41, hsnS, WVH_eq hbest]
    have hpl : plain 12 (bestA (bestS T.seats z)) = true := rfl
    cases hbs : bestS T.seats z with
    | none =>
     have hcK : callM c T = ⟨T.seats, T.ords ++ [((n : Int), refO c)], T.vain⟩ := by
      rw [hcM]; unfold askM; rw [hlk, hz, Int.toNat_natCast, hbs, hn]
     have hpE : AV.agg [I64 1, I64 (-1), I64 (-1), I64 (z : Int)] = encPc ⟨1, -1, -1, z⟩ := rfl
     have hwp : writeCells (encPc pc) 0 [I64 1, I64 (-1), I64 (-1), I64 (z : Int)] = some (encPc ⟨1, -1, -1, z⟩) := rfl
     rw [hbs] at hpl
     simp only [go_sem, Nat.reduceEqDiff, Nat.reduceAdd, Nat.reduceLT, Nat.reduceLeDiff, reduceIte, hpl, true_and, bestA, Option.isSome_none, g6, g7, hb7x, hbLx, HoCells, CCells, hn, hz, hin3, hR3.hp, hpa, hpE, PcCells, hwp, pcs_set, g9, wrap_n1 k (by omega)]
     refine Nx_of (k + 1, r) (show r.length < (c :: r).length by simp) ?_
     simp only [go_sem, Nat.reduceEqDiff, Nat.reduceAdd, Nat.reduceLT, Nat.reduceLeDiff, reduceIte, g2, g3, g6, g7, g8]
     refine ⟨t_, t_, t_, t_, t_, t_, hd2, hb2, _, tk, rfl, ?_, ?_⟩
     ·rw [htk, hcK]
      refine ⟨hge, sid, pid, nid, rows2, _, sn, vn, (hR3.setP _).sub fun p hp => List.mem_cons_of_mem _ hp, ?_, hVT⟩
      rw [hn] at hlk
      have := hAT.added hn1 (x := refO c) hlk (rows' := rows2) hAT.rw' hAT.sl hAT.sb (fun _ _ => rfl) (fun e => by cases e)
      unfold refO at this ⊢
      rw [hz] at this ⊢
      exact this
     ·rw [htk]; exact hBS
    | some q =>
     obtain ⟨rr, ss⟩ := q
     rw [hbs] at hpl
     obtain ⟨row, hrow, hrs, hrp⟩ := bestS_mem hbs
     dsimp only at hrow hrs hrp
     have hcK : callM c T = ⟨seatM T.seats rr ss z n, T.ords ++ [((n : Int), heldO c rr ss)], T.vain⟩ := by
      rw [hcM]; unfold askM; rw [hlk, hz, Int.toNat_natCast, hbs, hn]
     have hf4 : f4 (some (rr, ss)) = (rr : Int) := rfl
     have hf5 : f5 (some (rr, ss)) = (ss : Int) := rfl
     obtain ⟨qb, hqr⟩ : ∃ b, rows2[rr]? = some (b, row) := by
      rw [← hAT.rw', List.getElem?_map] at hrow
      cases hq : rows2[rr]? with
      | none => rw [hq] at hrow; cases hrow
      | some p => rw [hq, Option.map_some] at hrow; cases hrow; exact ⟨p.1, rfl⟩
     have hrlt : rr < rows2.length := (List.getElem?_eq_some_iff.1 hqr).1
     have hrow12 := hBT.row row (List.mem_of_getElem? hrow)
     have wz : IntKind.i64.wrap ((ss : Int) + (z : Int)) = (ss : Int) + z := wrap_i64 _ (by omega) (by omega)
     obtain ⟨rF, hrF⟩ : ∃ rF : Nat → List Rw, rF = fun j => rows2.set rr (qb, fillR row ss j n) := ⟨_, rfl⟩
     have hrFg : ∀ j, (rF j)[rr]? = some (qb, fillR row ss j n) := fun j => by rw [hrF]; dsimp only; rw [List.getElem?_set_self hrlt]
     have hrFl : ∀ j, (rF j).length = rows2.length := fun j => by rw [hrF]; simp
     have hrF0 : rF 0 = rows2 := by rw [hrF]; exact set_same' hqr
     have hrFs : ∀ j, (rF j).set rr (qb, (fillR row ss j n).set (ss + j) n) = rF (j + 1) := fun j => by rw [hrF]; dsimp only; rw [List.set_set]; rfl
     simp only [go_sem, Nat.reduceEqDiff, Nat.reduceAdd, Nat.reduceLT, Nat.reduceLeDiff, reduceIte, hpl, true_and, bestA, Option.isSome_some, hf4, hf5, g6, g7, hb7x, hbLx, HoCells, CCells, hn, hz]
     refine WL_inv (α := Nat) (fun j e mm => e 2 = I64 m ∧ e 3 = .ptr 0 0 0 ∧ e 6 = .ptr 1 0 0 ∧ e 7 = .ptr a7 0 0 ∧ e 8 = encCs (heardM l) ∧ e 9 = I64 k ∧ e 10 = .ptr bl.length 0 0 ∧ e 12 = I64 rr ∧ e 13 = I64 ss ∧ e 15 = I64 ((ss + j : Nat) : Int) ∧ j ≤ z ∧ ∃ blx, mm = ⟨blx, tk⟩ ∧ RH ((bl.length, .live [encC c] 5) :: frH h a7 sid pid nid rows2.length vn) sid pid nid (rF j) pcs2 sn blx) (fun j => z - j) 0 ?_ ?_
     ·simp only [go_sem, Nat.reduceEqDiff, Nat.reduceAdd, Nat.reduceLT, Nat.reduceLeDiff, reduceIte, g2, g3, g6, g7, g8, g9]
      exact ⟨t_, t_, t_, t_, t_, t_, t_, t_, t_, rfl, Nat.zero_le _, _, rfl, by rw [hrF0]; exact hR3⟩
     clear g2 g3 g6 g7 g8 g9 e
     rintro j e mm ⟨g2, g3, g6, g7, g8, g9, g10, g12, g13, g15, hjz, blx, rfl, hRx⟩
     have hbL := (hRx.fr' (bl.length, .live [encC c] 5) (by simp)).1
     have hb7 := (hRx.fr' (a7, .live [encHo sid pid nid rows2.length vn] 4) (by unfold frH; simp)).1
     dsimp only at hbL hb7
     by_cases hj : j < z
     ·have hd : decide (((ss + j : Nat) : Int) < (ss : Int) + (z : Int)) = true := decide_eq_true (by omega)
      have hii := idx_rf (m := ⟨blx, tk⟩) hRx.hs hrlt
      have hrg := refs_get (hrFg j)
      dsimp only at hrg
      rw [fillR_len] at hrg
      have hrb := hRx.hr _ (List.mem_of_getElem? (hrFg j))
      dsimp only at hrb
      have hij := idx_rf (m := ⟨blx, tk⟩) (n := row.length) hrb (show ss + j < row.length by omega)
      have hat := iL_at (List.getElem?_eq_getElem (l := fillR row ss j n) (i := ss + j) (by rw [fillR_len]; omega))
      simp only [go_sem, Nat.reduceEqDiff, Nat.reduceAdd, Nat.reduceLT, Nat.reduceLeDiff, reduceIte, g2, g3, g6, g7, g8, g9, g10, g12, g13, g15, hb7, hbL, HoCells, CCells, hn, hz, wz, hd, hii, hRx.hs, hrg, hij, hrb, hat, iL_set', wrap_n1 (ss + j) (by omega)]
      refine Nx_of (j + 1) (by omega) ?_
      simp only [go_sem, Nat.reduceEqDiff, Nat.reduceAdd, Nat.reduceLT, Nat.reduceLeDiff, reduceIte, g2, g3, g6, g7, g8, g9, g10, g12, g13]
      refine ⟨t_, t_, t_, t_, t_, t_, t_, t_, t_, by first | trivial | rfl, by omega, _, rfl, ?_⟩
      rw [← hrFs j]
      exact hRx.row (hrFg j) (by rw [List.length_set])
     ·have ej : j = z := by omega
      subst ej
      have hd : decide (((ss + j : Nat) : Int) < (ss : Int) + (j : Int)) = false := decide_eq_false (by omega)
      have hpE : AV.agg [I64 2, I64 (rr : Int), I64 (ss : Int), I64 (j : Int)] = encPc ⟨2, rr, ss, j⟩ := rfl
      have hwp : writeCells (encPc pc) 0 [I64 2, I64 (rr : Int), I64 (ss : Int), I64 (j : Int)] = some (encPc ⟨2, rr, ss, j⟩) := rfl
      have hip := idx_rf (m := ⟨blx, tk⟩) hRx.hp hn1
      have hRy := hRx.setP (pcs2.set n ⟨2, rr, ss, j⟩)
      have hbLy := (hRy.fr' (bl.length, .live [encC c] 5) (by simp)).1
      have hb7y := (hRy.fr' (a7, .live [encHo sid pid nid rows2.length vn] 4) (by unfold frH; simp)).1
      dsimp only at hbLy hb7y
      have hinn := idx_rf (m := ⟨blx.set pid (.live ((pcs2.set n ⟨2, rr, ss, j⟩).map encPc) 4), tk⟩) hRy.hn hn1
      have hsat := iL_at (List.getElem?_eq_getElem (l := sn) (i := n) (by rw [hAT.sl]; exact hn1))
      simp only [go_sem, Nat.reduceEqDiff, Nat.reduceAdd, Nat.reduceLT, Nat.reduceLeDiff, reduceIte, g2, g3, g6, g7, g8, g9, g10, g12, g13, g15, hb7, hbL, HoCells, CCells, hn, hz, wz, hd, hip, hRx.hp, hpa, hpE, PcCells, hwp, pcs_set, hbLy, hb7y, hinn, hRy.hn, hsat, iL_set', wrap_n1 k (by omega)]
      refine Nx_of (k + 1, r) (show r.length < (c :: r).length by simp) ?_
      simp only [go_sem, Nat.reduceEqDiff, Nat.reduceAdd, Nat.reduceLT, Nat.reduceLeDiff, reduceIte, g2, g3, g6, g7, g8]
      refine ⟨t_, t_, t_, t_, t_, t_, hd2, hb2, _, tk, rfl, ?_, ?_⟩
      ·rw [htk, hcK]
       refine ⟨hge, sid, pid, nid, rF j, _, _, vn, by rw [hrFl]; exact (hRy.setN _).sub fun p hp => List.mem_cons_of_mem _ hp, ?_, hVT⟩
       rw [hn] at hlk
       have := hAT.added hn1 (x := heldO c rr ss) hlk (rows' := rF j) (seats' := seatM T.seats rr ss j n) (sn2 := sn.set n c.at') ?_ (by rw [List.length_set]; exact hAT.sl) (fun y hy => ?_) (fun i hi => ?_) (fun _ => ?_)
       ·unfold heldO at this ⊢
        rw [hz] at this ⊢
        exact this
       ·rw [hrF]
        dsimp only
        rw [List.map_set, hAT.rw']
        unfold seatM
        rw [List.getD_eq_getElem?_getD, hrow]; rfl
       ·rcases List.mem_or_eq_of_mem_set hy with e | e
        ·exact hAT.sb y e
        ·rw [e]; exact ⟨hcc.a0, hcc.a1⟩
       ·rw [List.getD_eq_getElem?_getD, List.getD_eq_getElem?_getD, List.getElem?_set_ne (fun e => hi e.symm)]
       ·rw [List.getD_eq_getElem?_getD, List.getElem?_set_self (by rw [hAT.sl]; exact hn1)]; rfl
      ·rw [htk]; exact hBS
    done
   ·have e0' : pc.st ≠ 0 := by simpa using e0
    obtain ⟨x, hx, hl, ex⟩ := plc_ex hBT.inv (n := (n : Int)) (by rw [hpcE]; exact e0')
    have hcK : callM c T = T := by rw [hcM]; unfold askM; rw [hn, hl]
    simp only [go_sem, Nat.reduceEqDiff, Nat.reduceAdd, Nat.reduceLT, Nat.reduceLeDiff, reduceIte, g6, g7, hb7, hbL, hb7x, hbLx, hbP, List.getElem?_cons_zero, sA0, List.set_cons_zero, HoCells, CCells, hn, hin, hR2.hp, hpa, PcCells, PcEta, k1, e0, g9, wrap_n1 k (by omega)]
    refine Nx_of (k + 1, r) (show r.length < (c :: r).length by simp) ?_
    simp only [go_sem, Nat.reduceEqDiff, Nat.reduceAdd, Nat.reduceLT, Nat.reduceLeDiff, reduceIte, g2, g3, g6, g7, g8]
    refine ⟨t_, t_, t_, t_, t_, t_, hd2, hb2, _, tk, rfl, ?_, ?_⟩
    ·rw [htk, hcK]
     exact ⟨hge, sid, pid, nid, rows2, pcs2, sn, vn, hR3.sub fun p hp => List.mem_cons_of_mem _ hp, hAT, hVT⟩
    ·rw [htk]; exact hBS
end Go.Ab.T
end
