/-
 A part of the proofs over this seat.
 (The texts KqK22 KqK23 KqK24, one behind the other.)
-/
import Derived.Test.YtlmhadnbcmjaeaaGreatP7
import Derived.Test.YtlmhadnbcmjaeaaGreatP6
import Derived.KernelRfl
set_option linter.unusedSimpArgs false
set_option linter.unusedVariables false
set_option linter.unusedSectionVars false
section
namespace Go.Ab.T
set_option maxRecDepth 8000
set_option maxHeartbeats 4000000
theorem Repeat_run : ∀ z : Nat, 1 ≤ z → z ≤ 12 → WR ft (.f 50) [.sl [I64 (-1)] .unk, I64 (z : Int)] .nil fun v m => v = .ref 0 0 z ∧ m = ⟨[.live (iL (List.replicate z (-1))) 1], []⟩ := by
 have key : ∀ z ∈ [1, 2, 3, 4, 5, 6, 7, 8, 9, 10, 11, 12], WR ft (.f 50) [.sl [I64 (-1)] .unk, I64 ((z : Nat) : Int)] .nil fun v m => v = .ref 0 0 z ∧ m = ⟨[.live (iL (List.replicate z (-1))) 1], []⟩ := by
  intro z hz
  simp only [List.mem_cons, List.not_mem_nil, or_false] at hz
  rcases hz with rfl | rfl | rfl | rfl | rfl | rfl | rfl | rfl | rfl | rfl | rfl | rfl <;> exact ⟨80, (_, _), by kernel_rfl, rfl, rfl⟩
 intro z h1 h2
 refine key z ?_
 simp only [List.mem_cons, List.not_mem_nil, or_false]
 omega
def frs (bl : List Blk) : List (Nat × Blk) := bl.mapIdx fun i b => (i, b)
theorem frs_mem {bl : List Blk} {p : Nat × Blk} (h : p ∈ frs bl) : bl[p.1]? = some p.2 := by
 unfold frs at h
 obtain ⟨i, hi, e⟩ := List.mem_mapIdx.1 h
 subst e
 exact List.getElem?_eq_getElem hi
theorem mem_frs {bl : List Blk} {i : Nat} {b : Blk} (h : bl[i]? = some b) : (i, b) ∈ frs bl := by
 unfold frs
 obtain ⟨hi, e⟩ := List.getElem?_eq_some_iff.1 h
 exact List.mem_mapIdx.2 ⟨i, hi, by rw [e]⟩
theorem HW.sub {fr fr2 : List (Nat × Blk)} {a mid : Nat} {rv hold vn : AV} {rows : List Rw} {ords : List Oe} {bl : List Blk} (h : HW fr a mid rv hold rows ords vn bl) (hs : ∀ p ∈ fr2, p ∈ fr) : HW fr2 a mid rv hold rows ords vn bl :=
 ⟨h.ha, h.hr, h.hm, h.ho, h.nd, h.no, h.na, fun p hp => h.fr' p (hs p hp)⟩
theorem VV.sub {fr fr2 : List (Nat × Blk)} {rows : List Rw} {vain : List Int} {vn : AV} {bl : List Blk} (h : VV fr rows vain vn bl) (hs : ∀ p ∈ fr2, p ∈ fr) : VV fr2 rows vain vn bl := by
 rcases h with h | ⟨hne, id, e, hb, hr, hf⟩
 ·exact .inl h
 ·exact .inr ⟨hne, id, e, hb, hr, fun p hp => hf p (hs p hp)⟩
theorem HW.setF {fr fr2 : List (Nat × Blk)} {a mid : Nat} {rv hold vn : AV} {rows : List Rw} {ords : List Oe} {bl : List Blk} (h : HW fr a mid rv hold rows ords vn bl) {i : Nat} {B : Blk} (hi : (i, B) ∈ fr) (hs : ∀ p ∈ fr2, p ∈ fr) (hne : ∀ p ∈ fr2, p.1 ≠ i) (X : Blk) : HW fr2 a mid rv hold rows ords vn (bl.set i X) := by
 obtain ⟨t, ha⟩ := h.ha
 obtain ⟨f1, f2, f3, f4, f5⟩ := h.fr' _ hi
 refine ⟨⟨t, by rw [List.getElem?_set_ne f2]; exact ha⟩, fun p hp => ?_, by rw [List.getElem?_set_ne f3]; exact h.hm, fun p hp => ?_, h.nd, h.no, h.na, fun p hp => ?_⟩
 ·rw [List.getElem?_set_ne (fun e => f4 p hp e.symm)]; exact h.hr p hp
 ·rw [List.getElem?_set_ne (fun e => f5 p hp e.symm)]; exact h.ho p hp
 ·obtain ⟨g1, g2⟩ := h.fr' p (hs p hp)
  exact ⟨by rw [List.getElem?_set_ne (fun e => hne p hp e.symm)]; exact g1, g2⟩
theorem VV.setF {fr fr2 : List (Nat × Blk)} {rows : List Rw} {vain : List Int} {vn : AV} {bl : List Blk} (h : VV fr rows vain vn bl) {i : Nat} {B : Blk} (hi : (i, B) ∈ fr) (hs : ∀ p ∈ fr2, p ∈ fr) (X : Blk) : VV fr2 rows vain vn (bl.set i X) := by
 rcases h with h | ⟨hne, id, e, hb, hr, hf⟩
 ·exact .inl h
 ·exact .inr ⟨hne, id, e, by rw [List.getElem?_set_ne (hf _ hi)]; exact hb, hr, fun p hp => hf p (hs p hp)⟩
def HP (fr : List (Nat × Blk)) (rv : AV) (hold : Int) (S : HZ) (v : AV) (bl : List Blk) : Prop :=
 ∃ (a mid : Nat) (rows : List Rw) (ords : List Oe) (vn : AV) (t : Tk), v = .agg [rv, I64 hold, .sl (rows.map refR) t, .mp mid, vn] ∧ bl[a]? = some (.live [v] 5) ∧ HW fr a mid rv (I64 hold) rows ords vn bl ∧ VV fr rows S.vain vn bl ∧ rows.map Prod.snd = S.seats ∧ stO ords = S.ords
theorem HP.box {fr : List (Nat × Blk)} {rv : AV} {hold : Int} {S : HZ} {v : AV} {bl : List Blk} (h : HP fr rv hold S v bl) : HS fr bl.length rv hold S (bl ++ [.live [v] 5]) := by
 obtain ⟨a, mid, rows, ords, vn, t, e, ha, hw, hv, h1, h2⟩ := h
 have hw2 := hw.app [.live [v] 5]
 refine ⟨mid, rows, ords, vn, ⟨⟨t, ?_⟩, hw2.hr, hw2.hm, hw2.ho, hw2.nd, hw2.no, fun p hp => ?_, fun p hp => ?_⟩, hv.ext _, h1, h2⟩
 ·rw [gA0, ← e]; rfl
 ·have := hw.olt p hp; omega
 ·obtain ⟨f1, f2, f3⟩ := hw2.fr' p hp
  have := (List.getElem?_eq_some_iff.1 (hw.fr' p hp).1).1
  exact ⟨f1, by omega, f3⟩
theorem HW.newRow {fr : List (Nat × Blk)} {a mid : Nat} {rv hold vn : AV} {rows : List Rw} {bl : List Blk} (h : HW fr a mid rv hold rows [] vn bl) (row : List Int) (t : Tk) :
  HW fr a mid rv hold (rows ++ [(bl.length, row)]) [] vn ((bl ++ [Blk.live (iL row) 1]).set a (Blk.live [.agg [rv, hold, .sl ((rows ++ [(bl.length, row)]).map refR) t, .mp mid, vn]] 5)) := by
 obtain ⟨t0, ha⟩ := h.ha
 have hlt : a < bl.length := (List.getElem?_eq_some_iff.1 ha).1
 obtain ⟨r1, r2, r3⟩ := h.rm
 refine ⟨⟨t, by rw [List.getElem?_set_self (by simp; omega)]⟩, fun p hp => ?_, by rw [List.getElem?_set_ne r3.symm]; exact gB h.hm _, fun p hp => (nomatch hp), ?_, List.nodup_nil, fun p hp => (nomatch hp), fun p hp => ?_⟩
 ·rcases List.mem_append.1 hp with hp | hp
  ·rw [List.getElem?_set_ne (fun e => h.ra p hp e.symm)]; exact gB (h.hr p hp) _
  ·rw [List.mem_singleton] at hp
   subst hp
   rw [List.getElem?_set_ne (by dsimp only; omega)]; exact gA0 _ _
 ·rw [List.map_append, List.nodup_append]
  refine ⟨h.nd, by simp, fun u hu v hv => ?_⟩
  simp at hv
  obtain ⟨p, hp, rfl⟩ := List.mem_map.1 hu
  have := h.rlt p hp
  omega
 ·obtain ⟨f1, f2, f3, f4, f5⟩ := h.fr' p hp
  refine ⟨by rw [List.getElem?_set_ne (fun e => f2 e.symm)]; exact gB f1 _, f2, f3, fun q hq => ?_, f5⟩
  rcases List.mem_append.1 hq with hq | hq
  ·exact f4 q hq
  ·rw [List.mem_singleton] at hq
   subst hq
   have := (List.getElem?_eq_some_iff.1 f1).1
   dsimp only
   omega
def afterM (h : Hl) (l : List Cl) (m : Int) : HZ := lapseM h.hold m (((heardM l).filter fun c => decide (c.at' ≤ m)).foldl (hearM h.hold) (emptyM h.rows))
def lisE (h : Hl) (l : List Cl) (m : Int) : Int := if chkE h l = 0 then (if inR m 0 9999 = true then 0 else 1) else chkE h l
theorem okC_CV {c : Cl} (h : okC c = true) : CV c := by
 unfold okC at h
 rw [Bool.and_eq_true, Bool.and_eq_true, Bool.and_eq_true] at h
 obtain ⟨h1, h2, h3, h4⟩ := h
 obtain ⟨a1, a2⟩ := inR_iff h1
 obtain ⟨b1, b2⟩ := inR_iff h2
 obtain ⟨c1, c2⟩ := inR_iff h3
 refine ⟨b1, b2, a1, a2, c1, c2, ?_⟩
 unfold okS at h4
 by_cases k1 : c.kind = 1
 ·rw [if_pos k1] at h4
  obtain ⟨d1, d2⟩ := inR_iff h4
  exact .inl ⟨k1, d1, d2⟩
 ·rw [if_neg k1, Bool.and_eq_true, decide_eq_true_eq, decide_eq_true_eq] at h4
  rcases h4.1 with k | k
  ·exact .inr (.inl ⟨k, h4.2⟩)
  ·exact .inr (.inr ⟨k, h4.2⟩)
theorem chk_ok {h : Hl} {l : List Cl} (hc : chkE h l = 0) : okH h = true ∧ l.length ≤ 40 ∧ (∀ c ∈ l, CV c) ∧ noCl l := by
 unfold chkE at hc
 by_cases h1 : okH h = true
 ·rw [if_pos h1] at hc
  by_cases h2 : okL l = true
  ·unfold okL at h2
   rw [Bool.and_eq_true, Bool.and_eq_true, decide_eq_true_eq, List.all_eq_true, Bool.not_eq_true'] at h2
   exact ⟨h1, h2.1, fun c hc => okC_CV (h2.2.1 c hc), noCl_of h2.2.2⟩
  ·rw [if_neg h2] at hc; cases hc
 ·rw [if_neg h1] at hc; cases hc
theorem okH_all {h : Hl} (ho : okH h = true) : (∀ x ∈ h.rows, 1 ≤ x ∧ x ≤ 12) ∧ h.rows.length ≤ 6 ∧ 1 ≤ h.hold ∧ h.hold ≤ 600 := by
 unfold okH at ho
 rw [Bool.and_eq_true, Bool.and_eq_true, List.all_eq_true] at ho
 obtain ⟨a1, a2⟩ := inR_iff ho.1
 obtain ⟨b1, b2⟩ := inR_iff ho.2.2
 exact ⟨fun x hx => inR_iff (ho.2.1 x hx), by omega, b1, b2⟩
theorem HB.empty {h : Hl} (ho : okH h = true) : HB (emptyM h.rows) 0 := by
 obtain ⟨a, b, _⟩ := okH_all ho
 refine ⟨HInv.empty _, by show (h.rows.map _).length ≤ 6; rw [List.length_map]; exact b, fun r hr => ?_, Nat.le_refl _⟩
 obtain ⟨x, hx, rfl⟩ := List.mem_map.1 hr
 have := a x hx
 rw [List.length_replicate]; omega
theorem foldl_snoc' {α β : Type} (f : β → α → β) (b : β) (l : List α) (x : α) : (l ++ [x]).foldl f b = f (l.foldl f b) x := by rw [List.foldl_append]; rfl
theorem wS (rv hold x mp vn y : AV) (hy : y.cells = [y]) : writeCells (.agg [rv, hold, x, mp, vn]) 2 [y] = some (.agg [rv, hold, y, mp, vn]) := rfl
theorem listen_W (h : Hl) (l : List Cl) (m : Int) (bl : List Blk) (K : AV → Mem → Prop)
  (hK0 : lisE h l m ≠ 0 → ∀ bl' tk, K (.tup [.agg [.sl [] .tight, I64 0, .sl [] .tight, .nilm, .sl [] .tight], I64 (lisE h l m)]) ⟨bl ++ bl', tk⟩)
  (hK1 : lisE h l m = 0 → ∀ v bl' tk, HP (frs bl) (encIs h.rows) h.hold (afterM h l m) v bl' → K (.tup [v, I64 0]) ⟨bl', tk⟩) : WR ft (.f 31) [encH h, encCs l, I64 m] ⟨bl, []⟩ K := by
 rw [WR_f ft31 rfl]
 simp only [c31, r31]
 have hC := Check_ok h l
 unfold lisE at hK0 hK1
 have bnz : ((0 : Int) != 0) = false := rfl
 by_cases hc : chkE h l = 0
 case neg =>
  rw [if_neg hc] at hK0
  have hne : (chkE h l != 0) = true := by simpa using hc
  simp only [go_sem, Nat.reduceEqDiff, Nat.reduceAdd, Nat.reduceLT, Nat.reduceLeDiff, reduceIte, gA, gA0, sA, sA0, List.getElem?_cons_zero, List.getElem?_cons_succ, List.set_cons_zero, List.set_cons_succ, List.append_assoc, List.cons_append, List.nil_append, List.length_append, List.length_cons, List.length_nil, HEta, WB8, snH, hotH, snCs, hotCs, WVH_eq hC, true_and, hne]
  exact hK0 hc _ _
 rw [hc] at hC
 rw [if_pos hc] at hK0 hK1
 have hM := isMinute_ok m
 cases hm : inR m 0 9999
 case false =>
  rw [hm] at hM hK0
  simp only [go_sem, Nat.reduceEqDiff, Nat.reduceAdd, Nat.reduceLT, Nat.reduceLeDiff, reduceIte, gA, gA0, sA, sA0, List.getElem?_cons_zero, List.getElem?_cons_succ, List.set_cons_zero, List.set_cons_succ, List.append_assoc, List.cons_append, List.nil_append, List.length_append, List.length_cons, List.length_nil, HEta, WB8, snH, hotH, snCs, hotCs, WVH_eq hC, true_and, bnz, WB49, WVH_eq hM]
  exact hK0 (by decide) _ _
 rw [hm, if_pos rfl] at hK1
 rw [hm] at hM
 obtain ⟨ho, hl40, hcv, hnc⟩ := chk_ok hc
 obtain ⟨hx, hr6, hh1, hh2⟩ := okH_all ho
 simp only [go_sem, Nat.reduceEqDiff, Nat.reduceAdd, Nat.reduceLT, Nat.reduceLeDiff, reduceIte, gA, gA0, sA, sA0, List.getElem?_cons_zero, List.getElem?_cons_succ, List.set_cons_zero, List.set_cons_succ, List.append_assoc, List.cons_append, List.nil_append, List.length_append, List.length_cons, List.length_nil, HEta, HCells, WB8, snH, hotH, snCs, hotCs, WVH_eq hC, true_and, bnz, WB49, WVH_eq hM]
 obtain ⟨zA, hzA⟩ : ∃ zA, zA = AV.agg [.sl [] .tight, I64 0, .sl [] .tight, .nilm, .sl [] .tight] := ⟨_, rfl⟩
 have hW0 : HW (frs (bl ++ [Blk.live [encH h] 2, Blk.live [zA] 5])) (bl.length + 3) (bl.length + 2) (encIs h.rows) (I64 h.hold) [] [] (.sl [] .tight) (bl ++ [Blk.live [encH h] 2, Blk.live [zA] 5, Blk.mp [] .i, Blk.live [.agg [encIs h.rows, I64 h.hold, .sl [] .tight, .mp (bl.length + 2), .sl [] .tight]] 5]) := by
  refine ⟨⟨.tight, gA bl _ 3⟩, fun p hp => (nomatch hp), gA bl _ 2, fun p hp => (nomatch hp), List.nodup_nil, List.nodup_nil, fun p hp => (nomatch hp), fun p hp => ?_⟩
  have h1 := frs_mem hp
  have h2 := (List.getElem?_eq_some_iff.1 h1).1
  simp only [List.length_append, List.length_cons, List.length_nil] at h2
  refine ⟨?_, by omega, by omega, fun q hq => (nomatch hq), fun q hq => (nomatch hq)⟩
  rw [show bl ++ [Blk.live [encH h] 2, Blk.live [zA] 5, Blk.mp [] .i, Blk.live [.agg [encIs h.rows, I64 h.hold, .sl [] .tight, .mp (bl.length + 2), .sl [] .tight]] 5] = (bl ++ [Blk.live [encH h] 2, Blk.live [zA] 5]) ++ [Blk.mp [] .i, Blk.live [.agg [encIs h.rows, I64 h.hold, .sl [] .tight, .mp (bl.length + 2), .sl [] .tight]] 5] by simp]
  exact gB h1 _
 generalize hFR : frs (bl ++ [Blk.live [encH h] 2, Blk.live [zA] 5]) = FR at hW0
 refine WL_inv (α := Nat × List Int) (fun q e mm => e 1 = encCs l ∧ e 2 = I64 m ∧ e 6 = .ptr (bl.length + 1) 0 0 ∧ e 9 = .ptr (bl.length + 3) 0 0 ∧ e 30 = encIs h.rows ∧ e 31 = I64 h.rows.length ∧ e 32 = I64 q.1 ∧ h.rows.drop q.1 = q.2 ∧ ∃ rws blx tkx vs, mm = ⟨blx, tkx⟩ ∧ HW FR (bl.length + 3) (bl.length + 2) (encIs h.rows) (I64 h.hold) rws [] (.sl [] .tight) blx ∧ blx[bl.length + 3]? = some (.live [.agg [encIs h.rows, I64 h.hold, vs, .mp (bl.length + 2), .sl [] .tight]] 5) ∧ rws.map Prod.snd = (h.rows.take q.1).map (fun n => List.replicate n.toNat (-1)) ∧ Acc 22 (rws.map refR) vs tkx) (fun q => q.2.length) (0, h.rows) ?_ ?_
 ·simp only [go_sem, Nat.reduceEqDiff, Nat.reduceAdd, Nat.reduceLT, Nat.reduceLeDiff, reduceIte]
  exact ⟨t_, t_, t_, t_, t_, t_, rfl, t_, [], _, [], .sl [] .tight, by rw [hzA], hW0, gA bl _ 3, rfl, Acc_nil 22⟩
 rintro ⟨k, r⟩ e mm ⟨g1, g2, g6, g9, g30, g31, g32, hd, rws, blx, tkx, vs, rfl, hw, ha, hsd, hA⟩
 dsimp only at g32 hd hsd
 cases r with
 | cons z r =>
  obtain ⟨hk, hd2, hlt⟩ := drop_cons hd
  have hz := hx z (List.mem_of_getElem? hk)
  obtain ⟨zn, hzn⟩ : ∃ zn : Nat, z = zn := ⟨z.toNat, by omega⟩
  subst hzn
  have hsn1 : ∀ (M : Mem) (t : Tk), Ab.snap M dep (.sl [I64 (-1)] t) = .sl [I64 (-1)] .unk := fun _ _ => rfl
  simp only [go_sem, Nat.reduceEqDiff, Nat.reduceAdd, Nat.reduceLT, Nat.reduceLeDiff, reduceIte, g1, g2, g6, g9, g30, g31, g32, dec_lt hlt, Is_idx hk, ha, WB50]
  refine WR_mono (Repeat_run zn (by omega) (by omega)) fun v mr hr => ?_
  obtain ⟨rfl, rfl⟩ := hr
  have hjm : joinMem ⟨blx, tkx⟩ ⟨[.live (iL (List.replicate zn (-1))) 1], []⟩ 12 = ⟨blx ++ [.live (iL (List.replicate zn (-1))) 1], tkx⟩ := by
   unfold joinMem
   simp only [List.map_cons, List.map_nil, List.append_nil]
   congr 3
   show Blk.live ((iL (List.replicate zn (-1))).map (Ab.shift _ _ _)) 1 = _
   unfold iL
   rw [List.map_map]; rfl
  have hsh : Ab.shift blx.length tkx.length 12 (.ref 0 0 zn) = .ref blx.length 0 zn := rfl
  have halt : bl.length + 3 < blx.length := (List.getElem?_eq_some_iff.1 ha).1
  have hrow : refR (blx.length, List.replicate zn (-1)) = .ref blx.length 0 zn := by unfold refR; rw [List.length_replicate]
  have hrl : rws.length ≤ 6 := by rw [← List.length_map (f := Prod.snd), hsd, List.length_map, List.length_take]; omega
  simp only [go_sem, Nat.reduceEqDiff, Nat.reduceAdd, Nat.reduceLT, Nat.reduceLeDiff, reduceIte, hjm, hsh]
  refine ⟨by first | trivial | decide, ?_⟩
  refine hA.app (y := .ref blx.length 0 zn) (sz := 1) (fun e he => by
   obtain ⟨p, _, rfl⟩ := List.mem_map.1 he; rfl) rfl (by rw [List.length_map]; unfold limit; omega) fun v' tk' hA' => ?_
  have ha2 : (blx ++ [Blk.live (iL (List.replicate zn (-1))) 1])[bl.length + 3]? = some (.live [.agg [encIs h.rows, I64 h.hold, vs, .mp (bl.length + 2), .sl [] .tight]] 5) := gB ha _
  have hv'c : v'.cells = [v'] := by
   rcases hA' with ⟨h1, _⟩ | ⟨_, h2, _⟩
   ·simp at h1
   ·rw [h2]; rfl
  have hv's : v'.solid = true := by
   rcases hA' with ⟨h1, _⟩ | ⟨_, h2, _⟩
   ·simp at h1
   ·rw [h2]; rfl
  obtain ⟨tv, htv⟩ : ∃ tv, v' = .sl ((rws ++ [(blx.length, List.replicate zn (-1))]).map refR) tv := by
   rcases hA' with ⟨h1, _⟩ | ⟨_, h2, _⟩
   ·simp at h1
   ·exact ⟨.at 0, by rw [h2, List.map_append, List.map_singleton, hrow]⟩
  simp only [go_sem, Nat.reduceEqDiff, Nat.reduceAdd, Nat.reduceLT, Nat.reduceLeDiff, reduceIte, g1, g2, g6, g9, g30, g31, g32, ha2, wS _ _ _ _ _ v' hv'c, hv'c, hv's, wrap_n1 k (by omega)]
  refine Nx_of (k + 1, r) (by simp) ?_
  simp only [go_sem, Nat.reduceEqDiff, Nat.reduceAdd, Nat.reduceLT, Nat.reduceLeDiff, reduceIte, g1, g2, g6, g9, g30, g31]
  refine ⟨t_, t_, t_, t_, t_, t_, t_, hd2, rws ++ [(blx.length, List.replicate zn (-1))], _, tk', v', rfl, ?_, ?_, ?_, ?_⟩
  ·rw [htv]; exact hw.newRow (List.replicate zn (-1)) tv
  ·rw [List.getElem?_set_self (by simp; omega)]
  ·rw [List.map_append, hsd, take_snoc hk, List.map_append]; simp
  ·rw [List.map_append, List.map_singleton, hrow]; exact hA'
 | nil =>
  have h3 := drop_nil hd
  have htk : h.rows.take k = h.rows := List.take_of_length_le h3
  rw [htk] at hsd
  have hS0 : HS FR (bl.length + 3) (encIs h.rows) h.hold (emptyM h.rows) blx := ⟨_, rws, [], _, hw, .inl ⟨rfl, rfl⟩, hsd, rfl⟩
  have hO := inOrder_ok l (by omega) hnc hcv
  have hHl : (heardM l).length ≤ 40 := Nat.le_trans heard_len hl40
  have hHv : ∀ c ∈ heardM l, CV c := fun c hc => hcv c (heard_sub l c hc)
  simp only [go_sem, Nat.reduceEqDiff, Nat.reduceAdd, Nat.reduceLT, Nat.reduceLeDiff, reduceIte, g1, g2, g6, g9, g30, g31, g32, dec_ge h3, WB51, snCs, hotCs, WVH_eq hO, true_and, Cs_len]
  refine WL_inv (α := Nat × List Cl) (fun q e mm => e 2 = I64 m ∧ e 6 = .ptr (bl.length + 1) 0 0 ∧ e 9 = .ptr (bl.length + 3) 0 0 ∧ e 46 = encCs (heardM l) ∧ e 47 = I64 (heardM l).length ∧ e 48 = I64 q.1 ∧ (heardM l).drop q.1 = q.2 ∧ ∃ blx tkx, mm = ⟨blx, tkx⟩ ∧ HS FR (bl.length + 3) (encIs h.rows) h.hold ((((heardM l).take q.1).filter fun c => decide (c.at' ≤ m)).foldl (hearM h.hold) (emptyM h.rows)) blx ∧ HB ((((heardM l).take q.1).filter fun c => decide (c.at' ≤ m)).foldl (hearM h.hold) (emptyM h.rows)) q.1) (fun q => q.2.length) (0, heardM l) ?_ ?_
  ·simp only [go_sem, Nat.reduceEqDiff, Nat.reduceAdd, Nat.reduceLT, Nat.reduceLeDiff, reduceIte, g2, g6, g9]
   exact ⟨t_, t_, t_, t_, t_, rfl, t_, blx, tkx, rfl, hS0, HB.empty ho⟩
  clear g1 g2 g6 g9 g30 g31 g32 hw ha hA hS0 hsd hd
  rintro ⟨k, r⟩ e mm ⟨g2, g6, g9, g46, g47, g48, hd, blx, tkx, rfl, hS, hB⟩
  dsimp only at g48 hd hS hB
  cases r with
  | cons c r =>
   obtain ⟨hk, hd2, hlt⟩ := drop_cons hd
   have hcc := hHv c (List.mem_of_getElem? hk)
   have htk : ((heardM l).take (k + 1)).filter (fun c => decide (c.at' ≤ m)) = ((heardM l).take k).filter (fun c => decide (c.at' ≤ m)) ++ (if c.at' ≤ m then [c] else []) := by
    rw [take_snoc hk, List.filter_append]
    by_cases h : c.at' ≤ m <;> simp [h]
   cases hcm : decide (c.at' ≤ m)
   ·have hcm' := of_decide_eq_false hcm
    rw [if_neg hcm', List.append_nil] at htk
    simp only [go_sem, Nat.reduceEqDiff, Nat.reduceAdd, Nat.reduceLT, Nat.reduceLeDiff, reduceIte, g2, g6, g9, g46, g47, g48, dec_lt hlt, Cs_idx hk, gA0, sA0, List.set_cons_zero, List.getElem?_cons_zero, CCells, CEta, hcm, wrap_n1 k (by omega)]
    refine Nx_of (k + 1, r) (by simp) ?_
    simp only [go_sem, Nat.reduceEqDiff, Nat.reduceAdd, Nat.reduceLT, Nat.reduceLeDiff, reduceIte, g2, g6, g9, g46, g47]
    refine ⟨t_, t_, t_, t_, t_, t_, hd2, _, tkx, rfl, ?_, ?_⟩
    ·rw [htk]; exact hS.ext _
    ·rw [htk]; exact ⟨hB.inv, hB.len, hB.row, Nat.le_succ_of_le hB.vn⟩
   ·have hcm' := of_decide_eq_true hcm
    rw [if_pos hcm'] at htk
    simp only [go_sem, Nat.reduceEqDiff, Nat.reduceAdd, Nat.reduceLT, Nat.reduceLeDiff, reduceIte, g2, g6, g9, g46, g47, g48, dec_lt hlt, Cs_idx hk, gA0, sA0, List.set_cons_zero, List.getElem?_cons_zero, CCells, CEta, hcm, WB52]
    show WR ft (.f 52) _ _ _
    refine hear_W (hS.ext _) hB (by omega) (by omega) (by omega) hcc _ _ fun bl' hS' => ?_
    simp only [go_sem, Nat.reduceEqDiff, Nat.reduceAdd, Nat.reduceLT, Nat.reduceLeDiff, reduceIte, g2, g6, g9, g46, g47, g48, wrap_n1 k (by omega)]
    refine Nx_of (k + 1, r) (by simp) ?_
    simp only [go_sem, Nat.reduceEqDiff, Nat.reduceAdd, Nat.reduceLT, Nat.reduceLeDiff, reduceIte, g2, g6, g9, g46, g47]
    refine ⟨t_, t_, t_, t_, t_, t_, hd2, bl', tkx, rfl, ?_, ?_⟩
    ·rw [htk, foldl_snoc']; exact hS'
    ·rw [htk, foldl_snoc']; exact hB.hear hcc h.hold
  | nil =>
   have h3 := drop_nil hd
   rw [List.take_of_length_le h3] at hS hB
   simp only [go_sem, Nat.reduceEqDiff, Nat.reduceAdd, Nat.reduceLT, Nat.reduceLeDiff, reduceIte, g2, g6, g9, g46, g47, g48, dec_ge h3, WB53]
   show WR ft (.f 53) _ _ _
   rw [← List.append_nil blx]
   refine lapse_HS hS hB (by omega) (by omega) m [] tkx _ fun bl' hS' _ => ?_
   obtain ⟨mid, rows, ords, vn, hw, hv, e1, e2⟩ := hS'.ex
   obtain ⟨tt, ha⟩ := hw.ha
   have h6 : (bl.length + 1, Blk.live [zA] 5) ∈ FR := by rw [← hFR]; exact mem_frs (gA bl _ 1)
   obtain ⟨f1, f2, f3, f4, f5⟩ := hw.fr' _ h6
   dsimp only at f1
   have hsub : ∀ p ∈ frs bl, p ∈ FR := fun p hp => by
    rw [← hFR]
    exact mem_frs (gB (frs_mem hp) _)
   have hne : ∀ p ∈ frs bl, p.1 ≠ bl.length + 1 := fun p hp => by
    have := (List.getElem?_eq_some_iff.1 (frs_mem hp)).1
    omega
   rw [hzA] at f1
   have hlt1 : bl.length + 1 < bl'.length := (List.getElem?_eq_some_iff.1 f1).1
   have hvc : vn.cells = [vn] ∧ vn.solid = true := by
    rcases hv with ⟨_, e⟩ | ⟨_, id, e, _⟩ <;> rw [e] <;> exact ⟨rfl, rfl⟩
   simp only [go_sem, Nat.reduceEqDiff, Nat.reduceAdd, Nat.reduceLT, Nat.reduceLeDiff, reduceIte, g2, g6, g9, ha, f1, hvc.1, hvc.2, List.getElem?_set_self hlt1]
   refine hK1 rfl _ _ _ ⟨bl.length + 3, mid, rows, ords, vn, tt, rfl, ?_, hw.setF h6 hsub hne _, hv.setF h6 hsub _, e1, e2⟩
   rw [List.getElem?_set_ne (by omega)]; exact ha
end Go.Ab.T
end
