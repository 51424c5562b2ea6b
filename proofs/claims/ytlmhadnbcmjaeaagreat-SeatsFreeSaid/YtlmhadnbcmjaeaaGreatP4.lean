/-
 A part of the proofs over this seat.
 (The texts KqK13 KqK14 KqK15 KqK16, one behind the other.)
-/
import Derived.Test.YtlmhadnbcmjaeaaGreatP3
set_option linter.unusedSimpArgs false
set_option linter.unusedVariables false
set_option linter.unusedSectionVars false
section
namespace Go.Ab.T
set_option maxRecDepth 8000
set_option maxHeartbeats 4000000
structure Pc where
 st : Int
 row : Int
 seat : Int
 size : Int
def encPc (p : Pc) : AV := .agg [I64 p.st, I64 p.row, I64 p.seat, I64 p.size]
theorem PcCells (p : Pc) : (encPc p).cells = [I64 p.st, I64 p.row, I64 p.seat, I64 p.size] := rfl
theorem PcEta (p : Pc) : AV.agg [I64 p.st, I64 p.row, I64 p.seat, I64 p.size] = encPc p := rfl
attribute [go_sem] PcCells
def fillR (row : List Int) (s : Nat) : Nat → Int → List Int
 | 0, _ => row
 | n + 1, o => (fillR row s n o).set (s + n) o
theorem fillR_len (row : List Int) (s : Nat) (o : Int) : ∀ n, (fillR row s n o).length = row.length
 | 0 => rfl
 | n + 1 => by rw [fillR, List.length_set, fillR_len row s o n]
theorem gS {bl : List Blk} {b : Nat} (h : b < bl.length) (x y : Blk) : (bl.set b x ++ [y])[b]? = some x := gB (List.getElem?_set_self h) _
theorem gL (bl : List Blk) (b : Nat) (x y : Blk) : (bl.set b x ++ [y])[bl.length]? = some y := by
 have := gA0 (bl.set b x) [y]
 rw [List.length_set] at this; exact this
theorem sS {bl : List Blk} {b : Nat} (h : b < bl.length) (x y z : Blk) : (bl.set b x ++ [y]).set b z = bl.set b z ++ [y] := by
 rw [List.set_append_left _ _ (by rw [List.length_set]; exact h), List.set_set]
theorem set_same {bl : List Blk} {i : Nat} {x : Blk} (h : bl[i]? = some x) : bl.set i x = bl := by
 obtain ⟨hlt, he⟩ := List.getElem?_eq_some_iff.1 h
 rw [← he]; exact List.set_getElem_self hlt
theorem give_W {a : Nat} {rows : List Rw} (bl : List Blk) (tk : List (Nat × Nat)) (hF : HF a rows ⟨bl, tk⟩) {p : Pc} {r s n : Nat} (hr : p.row = r) (hs : p.seat = s) (hn : p.size = n) {q : Rw} (hq : rows[r]? = some q) (hql : q.2.length ≤ 1000)
  (hsn : s + n ≤ q.2.length) (o : Int) (K : AV → Mem → Prop) (hK : K (.tup []) ⟨bl.set q.1 (.live (iL (fillR q.2 s n o)) 1) ++ [.live [encPc p] 4], tk⟩) : WR ft (.f 99) [.ptr a 0 0, encPc p, I64 o] ⟨bl, tk⟩ K := by
 rw [WR_f ft99 rfl]
 simp only [c99, r99]
 obtain ⟨⟨rv, hold, mp, vn, t2, ha⟩, hrr⟩ := hF
 have hqb := hrr q (List.mem_of_getElem? hq)
 dsimp only at ha hqb
 have hqlt : q.1 < bl.length := (List.getElem?_eq_some_iff.1 hqb).1
 have ha' := fun l => gB ha l
 have hidx := fun m => idx_refs hq m t2
 simp only [go_sem, Nat.reduceEqDiff, Nat.reduceAdd, Nat.reduceLT, Nat.reduceLeDiff, reduceIte, ha', gA0, List.getElem?_cons_zero, hr, hs, hn, hidx, refR]
 refine WL_inv (α := Nat) (fun k e mm => e 2 = I64 o ∧ e 4 = .ptr bl.length 0 0 ∧ e 6 = .ref q.1 0 q.2.length ∧ e 17 = I64 (n : Int) ∧ e 18 = I64 (k : Int) ∧ k ≤ n ∧ mm = ⟨bl.set q.1 (.live (iL (fillR q.2 s k o)) 1) ++ [.live [encPc p] 4], tk⟩) (fun k => n - k) 0 ?_ ?_
 ·simp only [go_sem, Nat.reduceEqDiff, Nat.reduceAdd, Nat.reduceLT, Nat.reduceLeDiff, reduceIte]
  refine ⟨t_, t_, t_, t_, rfl, Nat.zero_le _, ?_⟩
  rw [show fillR q.2 s 0 o = q.2 from rfl, set_same hqb]
 rintro k e m ⟨g2, g4, g6, g17, g18, hk, rfl⟩
 by_cases hkn : k < n
 case neg =>
  obtain rfl : k = n := by omega
  simp only [go_sem, Nat.reduceEqDiff, Nat.reduceAdd, Nat.reduceLT, Nat.reduceLeDiff, reduceIte, g2, g4, g6, g17, g18, show decide ((k : Int) < (k : Int)) = false from decide_eq_false (by omega)]
  exact hK
 have hlt : s + k < q.2.length := by omega
 have hl2 : s + k < (fillR q.2 s k o).length := by rw [fillR_len]; exact hlt
 have w6 : IntKind.i64.wrap ((s : Int) + (k : Int)) = ((s + k : Nat) : Int) := by rw [wrap_i64 _ (by omega) (by omega)]; omega
 have hix := idx_row (m := ⟨bl.set q.1 (.live (iL (fillR q.2 s k o)) 1) ++ [.live [encPc p] 4], tk⟩) (b := q.1) (n := q.2.length) (gS hqlt _ _) (fillR_len _ _ _ _).symm hlt
 simp only [go_sem, Nat.reduceEqDiff, Nat.reduceAdd, Nat.reduceLT, Nat.reduceLeDiff, reduceIte, g2, g4, g6, g17, g18, show decide ((k : Int) < (n : Int)) = true from decide_eq_true (by omega), gL, hs, w6, hix, gS hqlt, iL_get hl2, iL_set, sS hqlt, wrap_n1 k (by omega)]
 refine Nx_of (k + 1) (by omega) ?_
 simp only [go_sem, Nat.reduceEqDiff, Nat.reduceAdd, Nat.reduceLT, Nat.reduceLeDiff, reduceIte, g2, g4, g6, g17]
 exact ⟨t_, t_, t_, t_, t_, by omega, rfl⟩
structure Od where
 pc : Pc
 asked : Int
def encO (x : Od) : AV := .agg [I64 x.pc.st, I64 x.pc.row, I64 x.pc.seat, I64 x.pc.size, I64 x.asked]
theorem OCells (x : Od) : (encO x).cells = [I64 x.pc.st, I64 x.pc.row, I64 x.pc.seat, I64 x.pc.size, I64 x.asked] := rfl
attribute [go_sem] OCells
theorem wO0 (x : Od) (n : Int) : writeCells (encO x) 0 [I64 n] = some (encO ⟨⟨n, x.pc.row, x.pc.seat, x.pc.size⟩, x.asked⟩) := rfl
theorem wO1 (x : Od) (n : Int) : writeCells (encO x) 1 [I64 n] = some (encO ⟨⟨x.pc.st, n, x.pc.seat, x.pc.size⟩, x.asked⟩) := rfl
theorem wO2 (x : Od) (n : Int) : writeCells (encO x) 2 [I64 n] = some (encO ⟨⟨x.pc.st, x.pc.row, n, x.pc.size⟩, x.asked⟩) := rfl
def outO (x : Od) (st : Int) : Od := ⟨⟨st, -1, -1, x.pc.size⟩, x.asked⟩
theorem leave_W {a : Nat} {rows : List Rw} (bl : List Blk) (tk : List (Nat × Nat)) (hF : HF a rows ⟨bl, tk⟩) {x : Od} {b : Nat} (hb : bl[b]? = some (.live [encO x] 5)) {r s n : Nat} (hr : x.pc.row = r) (hs : x.pc.seat = s) (hn : x.pc.size = n) {q : Rw} (hq : rows[r]? = some q) (hql : q.2.length ≤ 1000)
  (hsn : s + n ≤ q.2.length) (st : Int) (K : AV → Mem → Prop) (hK : K (.tup []) ⟨(bl.set q.1 (Blk.live (iL (fillR q.2 s n (-1))) 1) ++ [Blk.live [encPc x.pc] 4]).set b (.live [encO (outO x st)] 5), tk⟩) : WR ft (.f 79) [.ptr a 0 0, .ptr b 0 0, I64 st] ⟨bl, tk⟩ K := by
 rw [WR_f ft79 rfl]
 simp only [c79, r79]
 have hqb := hF.hr q (List.mem_of_getElem? hq)
 dsimp only at hqb
 have hne : q.1 ≠ b := fun e => by rw [e, hb] at hqb; simp at hqb
 have hqlt : q.1 < bl.length := (List.getElem?_eq_some_iff.1 hqb).1
 have hblt : b < bl.length := (List.getElem?_eq_some_iff.1 hb).1
 simp only [go_sem, Nat.reduceEqDiff, Nat.reduceAdd, Nat.reduceLT, Nat.reduceLeDiff, reduceIte, hb, PcEta, WB99]
 show WR ft (.f 99) _ _ _
 refine give_W bl tk hF hr hs hn hq hql hsn (-1) _ ?_
 have hb2 : (bl.set q.1 (Blk.live (iL (fillR q.2 s n (-1))) 1) ++ [Blk.live [encPc x.pc] 4])[b]? = some (.live [encO x] 5) := gB (by rw [List.getElem?_set_ne hne]; exact hb) _
 have hl : b < (bl.set q.1 (Blk.live (iL (fillR q.2 s n (-1))) 1) ++ [Blk.live [encPc x.pc] 4]).length := by simp; omega
 generalize bl.set q.1 (Blk.live (iL (fillR q.2 s n (-1))) 1) ++ [Blk.live [encPc x.pc] 4] = B at *
 simp only [go_sem, Nat.reduceEqDiff, Nat.reduceAdd, Nat.reduceLT, Nat.reduceLeDiff, reduceIte, hb2, wO0, wO1, wO2, List.getElem?_set_self hl, List.set_set]
 exact hK
abbrev Oe := Int × Nat × Od
def kvO (p : Oe) : Int × AV := (p.1, .ptr p.2.1 0 0)
structure HW (fr : List (Nat × Blk)) (a mid : Nat) (rv hold : AV) (rows : List Rw) (ords : List Oe) (vn : AV) (bl : List Blk) : Prop where
 ha : ∃ tk, bl[a]? = some (.live [.agg [rv, hold, .sl (rows.map refR) tk, .mp mid, vn]] 5)
 hr : ∀ p ∈ rows, bl[p.1]? = some (.live (iL p.2) 1)
 hm : bl[mid]? = some (.mp (im (ords.map kvO)) .i)
 ho : ∀ p ∈ ords, bl[p.2.1]? = some (.live [encO p.2.2] 5)
 nd : (rows.map Prod.fst).Nodup
 no : (ords.map fun p => p.2.1).Nodup
 na : ∀ p ∈ ords, p.2.1 ≠ a
 fr' : ∀ p ∈ fr, bl[p.1]? = some p.2 ∧ p.1 ≠ a ∧ p.1 ≠ mid ∧ (∀ q ∈ rows, q.1 ≠ p.1) ∧ ∀ q ∈ ords, q.2.1 ≠ p.1
theorem HW.hf {fr : List (Nat × Blk)} {a mid : Nat} {rv hold vn : AV} {rows : List Rw} {ords : List Oe} {bl : List Blk} (h : HW fr a mid rv hold rows ords vn bl) (tk : List (Nat × Nat)) : HF a rows ⟨bl, tk⟩ := by
 obtain ⟨t, ha⟩ := h.ha
 exact ⟨⟨rv, hold, _, vn, t, ha⟩, h.hr⟩
def lkO (ords : List Oe) (n : Int) : Option (Nat × Od) := (ords.find? (·.1 == n)).map (·.2)
theorem ilook_kv : ∀ (ords : List Oe) (n : Int), ilook (ords.map kvO) n = (lkO ords n).map fun p => .ptr p.1 0 0
 | [], n => rfl
 | p :: r, n => by
  unfold lkO
  rw [List.map_cons, ilook, List.find?_cons]
  by_cases h : n = p.1
  ·rw [if_pos (show n = (kvO p).1 from h), show (p.1 == n) = true by rw [h]; simp]; rfl
  ·rw [if_neg (show ¬n = (kvO p).1 from h), show (p.1 == n) = false by rw [beq_eq_false_iff_ne]; exact fun e => h e.symm]
   exact ilook_kv r n
theorem lkO_mem {ords : List Oe} {n : Int} {p : Nat × Od} (h : lkO ords n = some p) : (n, p) ∈ ords := by
 unfold lkO at h
 cases hf : ords.find? (·.1 == n) with
 | none => rw [hf] at h; cases h
 | some e =>
  rw [hf] at h
  have h1 := List.find?_some hf
  have h2 := List.mem_of_find?_eq_some hf
  obtain ⟨k, e'⟩ := e
  cases h
  rw [beq_iff_eq] at h1
  dsimp only at h1
  rw [h1] at h2; exact h2
def updO (ords : List Oe) (b : Nat) (x : Od) : List Oe := ords.map fun p => if p.2.1 = b then (p.1, b, x) else p
theorem updO_kv (ords : List Oe) (b : Nat) (x : Od) : (updO ords b x).map kvO = ords.map kvO := by
 unfold updO
 rw [List.map_map]
 apply List.map_congr_left
 intro p _
 simp only [Function.comp]
 by_cases h : p.2.1 = b
 ·rw [if_pos h]; unfold kvO; rw [h]
 ·rw [if_neg h]
theorem updO_blk (ords : List Oe) (b : Nat) (x : Od) : (updO ords b x).map (fun p => p.2.1) = ords.map fun p => p.2.1 := by
 unfold updO
 rw [List.map_map]
 apply List.map_congr_left
 intro p _
 simp only [Function.comp]
 by_cases h : p.2.1 = b
 ·rw [if_pos h]; exact h.symm
 ·rw [if_neg h]
theorem set_same' {α : Type} {l : List α} {i : Nat} {x : α} (h : l[i]? = some x) : l.set i x = l := by
 obtain ⟨hlt, he⟩ := List.getElem?_eq_some_iff.1 h
 rw [← he]; exact List.set_getElem_self hlt
theorem HW.upd {fr : List (Nat × Blk)} {a mid : Nat} {rv hold vn : AV} {rows : List Rw} {ords : List Oe} {bl : List Blk} (h : HW fr a mid rv hold rows ords vn bl) {n : Int} {b : Nat} {x : Od} (hx : (n, b, x) ∈ ords) (x' : Od) : HW fr a mid rv hold rows (updO ords b x') vn (bl.set b (.live [encO x'] 5)) := by
 obtain ⟨t, ha⟩ := h.ha
 have hb := h.ho _ hx
 dsimp only at hb
 have hlt : b < bl.length := (List.getElem?_eq_some_iff.1 hb).1
 refine ⟨⟨t, ?_⟩, fun p hp => ?_, ?_, fun p hp => ?_, h.nd, by rw [updO_blk]; exact h.no, fun p hp => ?_, fun p hp => ?_⟩
 ·rw [List.getElem?_set_ne (h.na _ hx)]; exact ha
 ·have hp' := h.hr p hp
  rw [List.getElem?_set_ne (fun e => by rw [← e, hb] at hp'; simp at hp')]; exact hp'
 ·have hm := h.hm
  rw [List.getElem?_set_ne (fun e => by rw [← e, hb] at hm; simp at hm), updO_kv]; exact hm
 ·obtain ⟨p0, hp0, rfl⟩ := List.mem_map.1 hp
  by_cases he : p0.2.1 = b
  ·rw [if_pos he]; dsimp only; rw [List.getElem?_set_self hlt]
  ·rw [if_neg he, List.getElem?_set_ne (fun e => he e.symm)]; exact h.ho _ hp0
 ·obtain ⟨p0, hp0, rfl⟩ := List.mem_map.1 hp
  by_cases he : p0.2.1 = b
  ·rw [if_pos he]; exact h.na (n, b, x) hx
  ·rw [if_neg he]; exact h.na _ hp0
 ·obtain ⟨f1, f2, f3, f4, f5⟩ := h.fr' p hp
  refine ⟨by rw [List.getElem?_set_ne (f5 _ hx)]; exact f1, f2, f3, f4, fun q hq => ?_⟩
  obtain ⟨p0, hp0, rfl⟩ := List.mem_map.1 hq
  by_cases he : p0.2.1 = b
  ·rw [if_pos he]; exact f5 (n, b, x) hx
  ·rw [if_neg he]; exact f5 _ hp0
theorem HW.row {fr : List (Nat × Blk)} {a mid : Nat} {rv hold vn : AV} {rows : List Rw} {ords : List Oe} {bl : List Blk} (h : HW fr a mid rv hold rows ords vn bl) {r : Nat} {q : Rw} (hq : rows[r]? = some q) {row : List Int} (hl : row.length = q.2.length) : HW fr a mid rv hold (rows.set r (q.1, row)) ords vn (bl.set q.1 (.live (iL row) 1)) := by
 obtain ⟨t, ha⟩ := h.ha
 have hb := h.hr _ (List.mem_of_getElem? hq)
 have hlt : q.1 < bl.length := (List.getElem?_eq_some_iff.1 hb).1
 have hrl : r < rows.length := (List.getElem?_eq_some_iff.1 hq).1
 have hfst : (rows.set r (q.1, row)).map Prod.fst = rows.map Prod.fst := by
  rw [List.map_set]
  apply set_same'
  rw [List.getElem?_map, hq]; rfl
 have href : (rows.set r (q.1, row)).map refR = rows.map refR := by
  rw [List.map_set]
  apply set_same'
  rw [List.getElem?_map, hq]
  show some (refR q) = some (refR (q.1, row))
  unfold refR; rw [hl]
 refine ⟨⟨t, ?_⟩, fun p hp => ?_, ?_, fun p hp => ?_, by rw [hfst]; exact h.nd, h.no, h.na, fun p hp => ?_⟩
 ·rw [href, List.getElem?_set_ne (fun e => by rw [← e, hb] at ha; simp at ha)]; exact ha
 ·obtain ⟨i, hi, rfl⟩ := List.getElem_of_mem hp
  rw [List.length_set] at hi
  rw [List.getElem_set]
  by_cases he : r = i
  ·rw [if_pos he]; dsimp only; rw [List.getElem?_set_self hlt]
  ·rw [if_neg he]
   have hne : q.1 ≠ rows[i].1 := fun e => by
    have h1 : (rows.map Prod.fst)[r]? = some q.1 := by rw [List.getElem?_map, hq]; rfl
    have h2 : (rows.map Prod.fst)[i]? = some q.1 := by rw [List.getElem?_map, List.getElem?_eq_getElem hi, e]; rfl
    exact he ((List.getElem?_inj (by simpa using hrl) h.nd).1 (h1.trans h2.symm))
   rw [List.getElem?_set_ne hne]; exact h.hr _ (List.getElem_mem hi)
 ·have hm := h.hm
  rw [List.getElem?_set_ne (fun e => by rw [← e, hb] at hm; simp at hm)]; exact hm
 ·have ho := h.ho p hp
  rw [List.getElem?_set_ne (fun e => by rw [← e, hb] at ho; simp at ho)]; exact ho
 ·obtain ⟨f1, f2, f3, f4, f5⟩ := h.fr' p hp
  have hqm := List.mem_of_getElem? hq
  refine ⟨by rw [List.getElem?_set_ne (f4 q hqm)]; exact f1, f2, f3, fun q' hq' => ?_, f5⟩
  have : q'.1 ∈ rows.map Prod.fst := by rw [← hfst]; exact List.mem_map.2 ⟨q', hq', rfl⟩
  obtain ⟨p0, hp0, e⟩ := List.mem_map.1 this
  rw [← e]; exact f4 p0 hp0
theorem HW.app {fr : List (Nat × Blk)} {a mid : Nat} {rv hold vn : AV} {rows : List Rw} {ords : List Oe} {bl : List Blk} (h : HW fr a mid rv hold rows ords vn bl) (l : List Blk) : HW fr a mid rv hold rows ords vn (bl ++ l) := by
 obtain ⟨t, ha⟩ := h.ha
 exact ⟨⟨t, gB ha l⟩, fun p hp => gB (h.hr p hp) l, gB h.hm l, fun p hp => gB (h.ho p hp) l, h.nd, h.no, h.na, fun p hp => by
  obtain ⟨f1, f2⟩ := h.fr' p hp
  exact ⟨gB f1 l, f2⟩⟩
def VV (fr : List (Nat × Blk)) (rows : List Rw) (vain : List Int) (vn : AV) (bl : List Blk) : Prop :=
 (vain = [] ∧ vn = .sl [] .tight) ∨ (vain ≠ [] ∧ ∃ id, vn = .ref id 0 vain.length ∧ bl[id]? = some (.live (iL vain) 1) ∧ (∀ p ∈ rows, p.1 ≠ id) ∧ ∀ p ∈ fr, p.1 ≠ id)
theorem VV.ext {fr : List (Nat × Blk)} {rows : List Rw} {vain : List Int} {vn : AV} {bl : List Blk} (h : VV fr rows vain vn bl) (l : List Blk) : VV fr rows vain vn (bl ++ l) := by
 rcases h with h | ⟨hne, id, e, hb, hr, hf⟩
 ·exact .inl h
 ·exact .inr ⟨hne, id, e, by rw [List.getElem?_append_left (List.getElem?_eq_some_iff.1 hb).1]; exact hb, hr, hf⟩
theorem VV.setNe {fr : List (Nat × Blk)} {rows : List Rw} {vain : List Int} {vn : AV} {bl : List Blk} (h : VV fr rows vain vn bl) {i : Nat} (hi : ∀ l, bl[i]? ≠ some (.live (iL l) 1)) (X : Blk) : VV fr rows vain vn (bl.set i X) := by
 rcases h with h | ⟨hne, id, e, hb, hr, hf⟩
 ·exact .inl h
 ·exact .inr ⟨hne, id, e, by rw [List.getElem?_set_ne (fun e => hi vain (by rw [e]; exact hb))]; exact hb, hr, hf⟩
theorem VV.setRow {fr : List (Nat × Blk)} {rows : List Rw} {vain : List Int} {vn : AV} {bl : List Blk} (h : VV fr rows vain vn bl) {r : Nat} {q : Rw} (hq : rows[r]? = some q) (row : List Int) (X : Blk) : VV fr (rows.set r (q.1, row)) vain vn (bl.set q.1 X) := by
 rcases h with h | ⟨hne, id, e, hb, hr, hf⟩
 ·exact .inl h
 ·refine .inr ⟨hne, id, e, by rw [List.getElem?_set_ne (hr q (List.mem_of_getElem? hq))]; exact hb, fun p hp => ?_, hf⟩
  obtain ⟨i, hi, rfl⟩ := List.getElem_of_mem hp
  rw [List.getElem_set]
  by_cases hc : r = i
  ·rw [if_pos hc]; exact hr q (List.mem_of_getElem? hq)
  ·rw [if_neg hc]; exact hr _ (List.getElem_mem _)
def placed (rows : List Rw) (x : Od) : Prop := ∃ (r s n : Nat) (q : Rw), x.pc.row = r ∧ x.pc.seat = s ∧ x.pc.size = n ∧ rows[r]? = some q ∧ q.2.length ≤ 1000 ∧ s + n ≤ q.2.length
def freeS (rows : List Rw) (x : Od) : List Rw :=
 match rows[x.pc.row.toNat]? with
 | some q => rows.set x.pc.row.toNat (q.1, fillR q.2 x.pc.seat.toNat x.pc.size.toNat (-1))
 | none => rows
theorem leave_HW {fr : List (Nat × Blk)} {a mid : Nat} {rv hold vn : AV} {rows : List Rw} {ords : List Oe} {bl : List Blk} {vain : List Int} (h : HW fr a mid rv hold rows ords vn bl) (hv : VV fr rows vain vn bl) (tk : List (Nat × Nat)) {n : Int} {b : Nat} {x : Od} (hx : (n, b, x) ∈ ords) (hp : placed rows x) (st : Int) (K : AV → Mem → Prop)
  (hK : ∀ bl', HW fr a mid rv hold (freeS rows x) (updO ords b (outO x st)) vn bl' → VV fr (freeS rows x) vain vn bl' → K (.tup []) ⟨bl', tk⟩) : WR ft (.f 79) [.ptr a 0 0, .ptr b 0 0, I64 st] ⟨bl, tk⟩ K := by
 obtain ⟨r, s, k, q, h1, h2, h3, hq, hql, hsn⟩ := hp
 refine leave_W bl tk (h.hf tk) (h.ho _ hx) h1 h2 h3 hq hql hsn st K (hK _ ?_ ?_)
 ·have hf : freeS rows x = rows.set r (q.1, fillR q.2 s k (-1)) := by
   unfold freeS
   rw [h1, h2, h3, Int.toNat_natCast, Int.toNat_natCast, Int.toNat_natCast, hq]
  rw [hf]
  exact ((h.row hq (fillR_len _ _ _ _)).app _).upd hx _
 ·have hf : freeS rows x = rows.set r (q.1, fillR q.2 s k (-1)) := by
   unfold freeS
   rw [h1, h2, h3, Int.toNat_natCast, Int.toNat_natCast, Int.toNat_natCast, hq]
  rw [hf]
  have hH := (h.row hq (fillR_len q.2 s (-1) k)).app [Blk.live [encPc x.pc] 4]
  exact ((hv.setRow hq _ _).ext _).setNe (fun l e => by have := hH.ho _ hx; dsimp only at this; rw [e] at this; simp at this) _
theorem drop_W {fr : List (Nat × Blk)} {a mid : Nat} {rv hold vn : AV} {rows : List Rw} {ords : List Oe} {bl : List Blk} {vain : List Int} (h : HW fr a mid rv hold rows ords vn bl) (hv : VV fr rows vain vn bl) (tk : List (Nat × Nat)) (n : Int) (hp : ∀ b x, lkO ords n = some (b, x) → (x.pc.st = 2 ∨ x.pc.st = 3) → placed rows x) (K : AV → Mem → Prop)
  (hK0 : (∀ b x, lkO ords n = some (b, x) → ¬(x.pc.st = 2 ∨ x.pc.st = 3)) → K (.tup []) ⟨bl, tk⟩)
  (hK1 : ∀ b x bl', lkO ords n = some (b, x) → (x.pc.st = 2 ∨ x.pc.st = 3) → HW fr a mid rv hold (freeS rows x) (updO ords b (outO x 5)) vn bl' → VV fr (freeS rows x) vain vn bl' → K (.tup []) ⟨bl', tk⟩) : WR ft (.f 78) [.ptr a 0 0, I64 n] ⟨bl, tk⟩ K := by
 rw [WR_f ft78 rfl]
 simp only [c78, r78]
 obtain ⟨t, ha⟩ := h.ha
 have hget := mget_im_ok .nilp (ords.map kvO) n
 rw [ilook_kv] at hget
 cases hl : lkO ords n with
 | none =>
  rw [hl] at hget
  simp only [Option.map_none, Option.getD_none, Option.isSome_none] at hget
  simp only [go_sem, Nat.reduceEqDiff, Nat.reduceAdd, Nat.reduceLT, Nat.reduceLeDiff, reduceIte, ha, h.hm, hget]
  exact hK0 fun b x e => by rw [hl] at e; cases e
 | some p =>
  obtain ⟨b, x⟩ := p
  rw [hl] at hget
  simp only [Option.map_some, Option.getD_some, Option.isSome_some] at hget
  have hmem := lkO_mem hl
  have hb := h.ho _ hmem
  dsimp only at hb
  cases h2 : (x.pc.st == 2)
  case true =>
   have h2' : x.pc.st = 2 := by simpa using h2
   simp only [go_sem, Nat.reduceEqDiff, Nat.reduceAdd, Nat.reduceLT, Nat.reduceLeDiff, reduceIte, ha, h.hm, hget, hb, h2, WB79]
   show WR ft (.f 79) _ _ _
   refine leave_HW h hv tk hmem (hp b x hl (.inl h2')) 5 _ fun bl' hh hlen => ?_
   simp only [go_sem, Nat.reduceEqDiff, Nat.reduceAdd, Nat.reduceLT, Nat.reduceLeDiff, reduceIte]
   exact hK1 b x bl' hl (.inl h2') hh hlen
  cases h3 : (x.pc.st == 3)
  case true =>
   have h3' : x.pc.st = 3 := by simpa using h3
   simp only [go_sem, Nat.reduceEqDiff, Nat.reduceAdd, Nat.reduceLT, Nat.reduceLeDiff, reduceIte, ha, h.hm, hget, hb, h2, h3, WB79]
   show WR ft (.f 79) _ _ _
   refine leave_HW h hv tk hmem (hp b x hl (.inr h3')) 5 _ fun bl' hh hlen => ?_
   simp only [go_sem, Nat.reduceEqDiff, Nat.reduceAdd, Nat.reduceLT, Nat.reduceLeDiff, reduceIte]
   exact hK1 b x bl' hl (.inr h3') hh hlen
  simp only [go_sem, Nat.reduceEqDiff, Nat.reduceAdd, Nat.reduceLT, Nat.reduceLeDiff, reduceIte, ha, h.hm, hget, hb, h2, h3]
  refine hK0 fun b' x' e => ?_
  rw [hl] at e
  cases e
  simp at h2 h3
  omega
theorem iput_new : ∀ {l : List (Int × AV)} {n : Int} (_ : ilook l n = none) (v : AV), iput l n v = l ++ [(n, v)]
 | [], _, _, _ => rfl
 | p :: r, n, h, v => by
  rw [ilook] at h
  by_cases hn : n = p.1
  ·rw [if_pos hn] at h; cases h
  ·rw [if_neg hn] at h
   rw [iput, if_neg hn, iput_new h]; rfl
theorem HW.new {fr : List (Nat × Blk)} {a mid : Nat} {rv hold vn : AV} {rows : List Rw} {ords : List Oe} {bl : List Blk} (h : HW fr a mid rv hold rows ords vn bl) {n : Int} {L : Nat} {x : Od} (hb : bl[L]? = some (.live [encO x] 5)) (hL : ∀ p ∈ ords, p.2.1 ≠ L) (hLa : L ≠ a) (hLf : ∀ p ∈ fr, p.1 ≠ L) :
  HW fr a mid rv hold rows (ords ++ [(n, L, x)]) vn (bl.set mid (.mp (im ((ords ++ [(n, L, x)]).map kvO)) .i)) := by
 obtain ⟨t, ha⟩ := h.ha
 have hm := h.hm
 have hlt : mid < bl.length := (List.getElem?_eq_some_iff.1 hm).1
 refine ⟨⟨t, ?_⟩, fun p hp => ?_, ?_, fun p hp => ?_, h.nd, ?_, fun p hp => ?_, fun p hp => ?_⟩
 ·rw [List.getElem?_set_ne (fun e => by rw [e, ha] at hm; simp at hm)]; exact ha
 ·have hp' := h.hr p hp
  rw [List.getElem?_set_ne (fun e => by rw [e, hp'] at hm; simp at hm)]; exact hp'
 ·rw [List.getElem?_set_self hlt]
 ·have hp' : bl[p.2.1]? = some (.live [encO p.2.2] 5) := by
   rcases List.mem_append.1 hp with hp | hp
   ·exact h.ho p hp
   ·rw [List.mem_singleton] at hp; rw [hp]; exact hb
  rw [List.getElem?_set_ne (fun e => by rw [e, hp'] at hm; simp at hm)]; exact hp'
 ·rw [List.map_append, List.nodup_append]
  refine ⟨h.no, by simp, fun u hu v hv => ?_⟩
  simp at hv
  obtain ⟨p, hp, rfl⟩ := List.mem_map.1 hu
  rw [hv]; exact hL p hp
 ·rcases List.mem_append.1 hp with hp | hp
  ·exact h.na p hp
  ·rw [List.mem_singleton] at hp; rw [hp]; exact hLa
 ·obtain ⟨f1, f2, f3, f4, f5⟩ := h.fr' p hp
  refine ⟨by rw [List.getElem?_set_ne (fun e => f3 e.symm)]; exact f1, f2, f3, f4, fun q hq => ?_⟩
  rcases List.mem_append.1 hq with hq | hq
  ·exact f5 q hq
  ·rw [List.mem_singleton] at hq; rw [hq]; exact fun e => hLf p hp e.symm
theorem bestM_mem {rows : List Rw} {z : Nat} {q : Nat × Nat} (h : bestM rows z = some q) : q ∈ plcs z rows 0 := by
 unfold bestM at h
 cases hf : (plcs z rows 0).find? (noGap rows z) with
 | some q' =>
  rw [hf] at h
  cases h
  exact List.mem_of_find?_eq_some hf
 | none =>
  rw [hf] at h
  cases hl : plcs z rows 0 with
  | nil => rw [hl] at h; cases h
  | cons u v => rw [hl] at h; cases h; simp
def refO (c : Cl) : Od := ⟨⟨1, -1, -1, c.size⟩, c.at'⟩
def heldO (c : Cl) (r s : Nat) : Od := ⟨⟨2, r, s, c.size⟩, c.at'⟩
theorem ask_W {fr : List (Nat × Blk)} {a mid : Nat} {rv hold vn : AV} {rows : List Rw} {ords : List Oe} {bl : List Blk} {vain : List Int} (h : HW fr a mid rv hold rows ords vn bl) (hv : VV fr rows vain vn bl) (tk : List (Nat × Nat)) (c : Cl) {z : Nat} (hcz : c.size = z) (hz : 1 ≤ z) (hz2 : z ≤ 1000) (hlen : rows.length ≤ 1000) (hrl : ∀ p ∈ rows, p.2.length ≤ 1000) (K : AV → Mem → Prop)
  (hK0 : lkO ords c.order ≠ none → ∀ ext, K (.tup []) ⟨bl ++ ext, tk⟩)
  (hK1 : lkO ords c.order = none → bestM rows z = none → ∀ bl', HW fr a mid rv hold rows (ords ++ [(c.order, bl.length + 1, refO c)]) vn bl' → VV fr rows vain vn bl' → K (.tup []) ⟨bl', tk⟩)
  (hK2 : ∀ (r s : Nat) q, lkO ords c.order = none → bestM rows z = some (r, s) → rows[r]? = some q → ∀ bl', HW fr a mid rv hold (rows.set r (q.1, fillR q.2 s z c.order)) (updO (ords ++ [(c.order, bl.length + 1, refO c)]) (bl.length + 1) (heldO c r s)) vn bl' → VV fr (rows.set r (q.1, fillR q.2 s z c.order)) vain vn bl' → K (.tup []) ⟨bl', tk⟩) :
  WR ft (.f 76) [.ptr a 0 0, encC c] ⟨bl, tk⟩ K := by
 rw [WR_f ft76 rfl]
 simp only [c76, r76]
 obtain ⟨t, ha⟩ := h.ha
 have hm := h.hm
 have hget := mget_im_ok .nilp (ords.map kvO) c.order
 rw [ilook_kv] at hget
 have ha' := fun l => gB ha l
 have hm' := fun l => gB hm l
 cases hl : lkO ords c.order with
 | some p =>
  rw [hl] at hget
  simp only [Option.map_some, Option.getD_some, Option.isSome_some] at hget
  simp only [go_sem, Nat.reduceEqDiff, Nat.reduceAdd, Nat.reduceLT, Nat.reduceLeDiff, reduceIte, ha', hm', gA0, List.getElem?_cons_zero, hget]
  exact hK0 (by rw [hl]; simp) _
 | none =>
  have hkv : ilook (ords.map kvO) c.order = none := by rw [ilook_kv, hl]; rfl
  rw [hl] at hget
  simp only [Option.map_none, Option.getD_none, Option.isSome_none] at hget
  have hput : mputL .i (im (ords.map kvO)) (I64 c.order) (.ptr (bl.length + 1) 0 0) = some (im ((ords ++ [(c.order, bl.length + 1, refO c)]).map kvO)) := by
   show mputL .i (im (ords.map kvO)) (.int .i64 c.order) _ = _
   rw [mput_im, iput_new hkv, List.map_append]; rfl
  have hOE : AV.agg [I64 1, I64 (-1), I64 (-1), I64 c.size, I64 c.at'] = encO (refO c) := rfl
  have hmlt : mid < bl.length := (List.getElem?_eq_some_iff.1 hm).1
  have halt : a < bl.length := (List.getElem?_eq_some_iff.1 ha).1
  have H3 : HW fr a mid rv hold rows (ords ++ [(c.order, bl.length + 1, refO c)]) vn ((bl ++ [Blk.live [encC c] 5, Blk.live [encO (refO c)] 5]).set mid (Blk.mp (im ((ords ++ [(c.order, bl.length + 1, refO c)]).map kvO)) EK.i)) :=
   (h.app _).new (gA bl _ 1) (fun p hp => by
    have := (List.getElem?_eq_some_iff.1 (h.ho p hp)).1
    omega) (by omega) (fun p hp => by
    have := (List.getElem?_eq_some_iff.1 (h.fr' p hp).1).1
    omega)
  have hB0 : ((bl ++ [Blk.live [encC c] 5, Blk.live [encO (refO c)] 5]).set mid (Blk.mp (im ((ords ++ [(c.order, bl.length + 1, refO c)]).map kvO)) EK.i))[bl.length]? = some (Blk.live [encC c] 5) := by
   rw [List.getElem?_set_ne (by omega)]; exact gA0 bl _
  obtain ⟨B3, hB3⟩ : ∃ B3, B3 = (bl ++ [Blk.live [encC c] 5, Blk.live [encO (refO c)] 5]).set mid (Blk.mp (im ((ords ++ [(c.order, bl.length + 1, refO c)]).map kvO)) EK.i) := ⟨_, rfl⟩
  have V3 : VV fr rows vain vn ((bl ++ [Blk.live [encC c] 5, Blk.live [encO (refO c)] 5]).set mid (Blk.mp (im ((ords ++ [(c.order, bl.length + 1, refO c)]).map kvO)) EK.i)) := (hv.ext _).setNe (fun l e => by rw [gB hm _] at e; simp at e) _
  rw [← hB3] at H3 hB0 V3
  simp only [go_sem, Nat.reduceEqDiff, Nat.reduceAdd, Nat.reduceLT, Nat.reduceLeDiff, reduceIte, ha', hm', gA0, gA, List.getElem?_cons_zero, List.getElem?_cons_succ, hget, List.append_assoc, List.cons_append, List.nil_append, List.length_append, List.length_cons, List.length_nil, hOE, hput, WB40, hB0, ← hB3]
  rw [hcz]
  show WR ft (.f 40) _ _ _
  refine best_W hz hz2 hlen hrl B3 tk (H3.hf tk) _ fun ext => ?_
  have hH : HW fr a mid rv hold rows (ords ++ [(c.order, bl.length + 1, refO c)]) vn (B3 ++ ext) := H3.app ext
  have hV := V3.ext ext
  have hL := hH.ho (c.order, bl.length + 1, refO c) (by simp)
  have hB0' := gB hB0 ext
  dsimp only at hL
  generalize B3 ++ ext = B at *
  cases hb : bestM rows z with
  | none =>
   simp only [go_sem, Nat.reduceEqDiff, Nat.reduceAdd, Nat.reduceLT, Nat.reduceLeDiff, reduceIte, bestA, Option.isSome_none]
   exact hK1 hl hb _ hH hV
  | some rs =>
   obtain ⟨r, s⟩ := rs
   obtain ⟨q, _, hq, hsz, _⟩ := plcs_mem (bestM_mem hb)
   dsimp only at hq hsz
   rw [Nat.sub_zero] at hq
   have hblt : bl.length + 1 < B.length := (List.getElem?_eq_some_iff.1 hL).1
   have hB1 : ∀ X, (B.set (bl.length + 1) X)[bl.length]? = some (Blk.live [encC c] 5) := fun X => by
    rw [List.getElem?_set_ne (by omega)]; exact hB0'
   have hU := hH.upd (show (c.order, bl.length + 1, refO c) ∈ _ by simp) (heldO c r s)
   simp only [go_sem, Nat.reduceEqDiff, Nat.reduceAdd, Nat.reduceLT, Nat.reduceLeDiff, reduceIte, bestA, Option.isSome_some, hL, wO0, wO1, wO2, List.getElem?_set_self hblt, List.set_set, WB99, hB1]
   show WR ft (.f 99) [.ptr a 0 0, encPc ⟨2, r, s, c.size⟩, I64 c.order] ⟨B.set (bl.length + 1) (Blk.live [encO (heldO c r s)] 5), tk⟩ _
   refine give_W _ tk (hU.hf tk) (r := r) (s := s) (n := z) rfl rfl hcz hq (hrl q (List.mem_of_getElem? hq)) hsz c.order _ ?_
   simp only [go_sem, Nat.reduceEqDiff, Nat.reduceAdd, Nat.reduceLT, Nat.reduceLeDiff, reduceIte]
   have hV2 := hV.setNe (i := bl.length + 1) (fun l e => by rw [hL] at e; simp at e) (.live [encO (heldO c r s)] 5)
   exact hK2 r s q hl hb hq _ ((hU.row hq (fillR_len _ _ _ _)).app _) ((hV2.setRow hq _ _).ext _)
def paidO (x : Od) : Od := ⟨⟨3, x.pc.row, x.pc.seat, x.pc.size⟩, x.asked⟩
theorem HW.setVn {fr : List (Nat × Blk)} {a mid : Nat} {rv hold vn : AV} {rows : List Rw} {ords : List Oe} {bl : List Blk} (h : HW fr a mid rv hold rows ords vn bl) {tk : Tk} (ha : bl[a]? = some (.live [.agg [rv, hold, .sl (rows.map refR) tk, .mp mid, vn]] 5)) (vn' : AV) :
  HW fr a mid rv hold rows ords vn' (bl.set a (.live [.agg [rv, hold, .sl (rows.map refR) tk, .mp mid, vn']] 5)) := by
 have hlt : a < bl.length := (List.getElem?_eq_some_iff.1 ha).1
 refine ⟨⟨tk, by rw [List.getElem?_set_self hlt]⟩, fun p hp => ?_, ?_, fun p hp => ?_, h.nd, h.no, h.na, fun p hp => ?_⟩
 ·have hp' := h.hr p hp
  rw [List.getElem?_set_ne (fun e => by rw [← e, ha] at hp'; simp at hp')]; exact hp'
 ·have hm := h.hm
  rw [List.getElem?_set_ne (fun e => by rw [← e, ha] at hm; simp at hm)]; exact hm
 ·rw [List.getElem?_set_ne (fun e => h.na p hp e.symm)]; exact h.ho p hp
 ·obtain ⟨f1, f2, f3⟩ := h.fr' p hp
  exact ⟨by rw [List.getElem?_set_ne (fun e => f2 e.symm)]; exact f1, f2, f3⟩
theorem HW.kill {fr : List (Nat × Blk)} {a mid : Nat} {rv hold vn : AV} {rows : List Rw} {ords : List Oe} {bl : List Blk} (h : HW fr a mid rv hold rows ords vn bl) {id : Nat} {l : List Int} (hi : bl[id]? = some (.live (iL l) 1)) (hr : ∀ p ∈ rows, p.1 ≠ id) (hfr : ∀ p ∈ fr, p.1 ≠ id) : HW fr a mid rv hold rows ords vn (bl.set id .dead) := by
 obtain ⟨t, ha⟩ := h.ha
 refine ⟨⟨t, ?_⟩, fun p hp => ?_, ?_, fun p hp => ?_, h.nd, h.no, h.na, fun p hp => ?_⟩
 ·rw [List.getElem?_set_ne (fun e => by rw [← e, hi] at ha; simp at ha)]; exact ha
 ·rw [List.getElem?_set_ne (fun e => hr p hp e.symm)]; exact h.hr p hp
 ·have hm := h.hm
  rw [List.getElem?_set_ne (fun e => by rw [← e, hi] at hm; simp at hm)]; exact hm
 ·have ho := h.ho p hp
  rw [List.getElem?_set_ne (fun e => by rw [← e, hi] at ho; simp at ho)]; exact ho
 ·obtain ⟨f1, f2⟩ := h.fr' p hp
  exact ⟨by rw [List.getElem?_set_ne (fun e => hfr p hp e.symm)]; exact f1, f2⟩
theorem iL_app (l : List Int) (n : Int) : iL (l ++ [n]) = iL l ++ [I64 n] := by unfold iL; simp
theorem VV.app {fr : List (Nat × Blk)} {a mid : Nat} {rv hold vn : AV} {rows : List Rw} {ords : List Oe} {bl : List Blk} {vain : List Int} (h : HW fr a mid rv hold rows ords vn bl) (hv : VV fr rows vain vn bl) (tk : List (Nat × Nat)) (n : Int) (hvl : vain.length ≤ 1000) {tk0 : Tk} (ha : bl[a]? = some (.live [.agg [rv, hold, .sl (rows.map refR) tk0, .mp mid, vn]] 5)) :
  ∃ vn' bl', appendAt ⟨bl ++ [.live [I64 n] 1], tk⟩ true vn (.ref bl.length 0 1) 3 1 8 = some (vn', ⟨bl', tk⟩) ∧ HW fr a mid rv hold rows ords vn bl' ∧ VV fr rows (vain ++ [n]) vn' bl' ∧ bl'[a]? = some (.live [.agg [rv, hold, .sl (rows.map refR) tk0, .mp mid, vn]] 5) := by
 have hel : Mem.elems ⟨bl ++ [.live [I64 n] 1], tk⟩ (.ref bl.length 0 1) = some [I64 n] := by
  rw [elems_ref, gA0, List.getElem?_cons_zero, elBlk_live]; rfl
 have hfrl : ∀ p ∈ fr, p.1 < bl.length := fun p hp => (List.getElem?_eq_some_iff.1 (h.fr' p hp).1).1
 have hrows : ∀ p ∈ rows, p.1 < bl.length := fun p hp => (List.getElem?_eq_some_iff.1 (h.hr p hp)).1
 rcases hv with ⟨rfl, rfl⟩ | ⟨hne, id, rfl, hid, hri, hfi⟩
 ·refine ⟨.ref (bl.length + 1) 0 1, bl ++ [.live [I64 n] 1] ++ [.live [I64 n] 1], ?_, (h.app _).app _, .inr ⟨by simp, bl.length + 1, rfl, ?_, fun p hp => by have := hrows p hp; omega, fun p hp => by have := hfrl p hp; omega⟩, ?_⟩
  ·simp only [appendAt, hel]
   simp [hdSz, newBlk, limit]
   rfl
  ·rw [List.append_assoc]; exact gA bl _ 1
  ·rw [List.append_assoc]; exact gB ha _
 ·have hlt : id < bl.length := (List.getElem?_eq_some_iff.1 hid).1
  have hpos : 0 < vain.length := List.length_pos_iff.2 hne
  refine ⟨.ref (bl.length + 1) 0 (vain.length + 1), (bl ++ [Blk.live [I64 n] 1]).set id Blk.dead ++ [Blk.live (iL (vain ++ [n])) 1], ?_, ((h.app _).kill (gB hid _) hri hfi).app _, .inr ⟨by simp, bl.length + 1, by simp, ?_, fun p hp => by have := hrows p hp; omega, fun p hp => by have := hfrl p hp; omega⟩, ?_⟩
  ·have hb : (bl ++ [Blk.live [I64 n] 1])[id]? = some (.live (iL vain) 1) := gB hid _
   simp only [appendAt, hel, hb]
   have hl : (iL vain).length = vain.length := iL_len vain
   have hc : hdSz [I64 n] 1 = true := rfl
   simp only [hl, iL_app, hc, List.length_singleton]
   rw [if_neg (by decide), if_neg (by decide), if_neg (by omega), if_pos ⟨⟨t_, t_⟩, by unfold limit; omega⟩]
   simp
  ·have hl : ((bl ++ [Blk.live [I64 n] 1]).set id .dead).length = bl.length + 1 := by simp
   rw [← hl]; exact gA0 _ _
  ·refine gB ?_ _
   rw [List.getElem?_set_ne (fun e => by rw [← e, hid] at ha; simp at ha)]; exact gB ha _
theorem pay_W {fr : List (Nat × Blk)} {a mid : Nat} {rv hold vn : AV} {rows : List Rw} {ords : List Oe} {bl : List Blk} {vain : List Int} (h : HW fr a mid rv hold rows ords vn bl) (hv : VV fr rows vain vn bl) (hvl : vain.length ≤ 1000) (tk : List (Nat × Nat)) (n : Int) (K : AV → Mem → Prop)
  (hK0 : (∀ b x, lkO ords n = some (b, x) → x.pc.st ≠ 2) → ∀ vn' bl', HW fr a mid rv hold rows ords vn' bl' → VV fr rows (vain ++ [n]) vn' bl' → K (.tup []) ⟨bl', tk⟩)
  (hK1 : ∀ b x, lkO ords n = some (b, x) → x.pc.st = 2 → ∀ bl', HW fr a mid rv hold rows (updO ords b (paidO x)) vn bl' → VV fr rows vain vn bl' → K (.tup []) ⟨bl', tk⟩) : WR ft (.f 77) [.ptr a 0 0, I64 n] ⟨bl, tk⟩ K := by
 rw [WR_f ft77 rfl]
 simp only [c77, r77]
 obtain ⟨t, ha⟩ := h.ha
 have hget := mget_im_ok .nilp (ords.map kvO) n
 rw [ilook_kv] at hget
 obtain ⟨vn', bl', hap, hH, hV, ha'⟩ := VV.app h hv tk n hvl ha
 have hlt' : a < bl'.length := (List.getElem?_eq_some_iff.1 ha').1
 obtain ⟨id, hrf, hidb, hidr, hidf⟩ : ∃ id, vn' = .ref id 0 (vain ++ [n]).length ∧ bl'[id]? = some (.live (iL (vain ++ [n])) 1) ∧ (∀ p ∈ rows, p.1 ≠ id) ∧ ∀ p ∈ fr, p.1 ≠ id := by
  rcases hV with ⟨h1, _⟩ | ⟨_, id, h1, h2, h3, h4⟩
  ·simp at h1
  ·exact ⟨id, h1, h2, h3, h4⟩
 have hc1 : vn'.cells = [vn'] := by rw [hrf]; rfl
 have hs1 : vn'.solid = true := by rw [hrf]; rfl
 have hfin : (∀ b x, lkO ords n = some (b, x) → x.pc.st ≠ 2) → K (.tup []) ⟨bl'.set a (.live [.agg [rv, hold, .sl (rows.map refR) t, .mp mid, vn']] 5), tk⟩ := fun h0 =>
  hK0 h0 vn' _ (hH.setVn ha' vn') (.inr ⟨by simp, id, hrf, by
   rw [List.getElem?_set_ne (fun e => by rw [e, hidb] at ha'; simp at ha')]; exact hidb, hidr, hidf⟩)
 have hw : ∀ v, writeCells (.agg [rv, hold, .sl (rows.map refR) t, .mp mid, vn]) 4 [v] = some (.agg [rv, hold, .sl (rows.map refR) t, .mp mid, v]) := fun _ => rfl
 cases hl : lkO ords n with
 | none =>
  rw [hl] at hget
  simp only [Option.map_none, Option.getD_none, Option.isSome_none] at hget
  simp only [go_sem, Nat.reduceEqDiff, Nat.reduceAdd, Nat.reduceLT, Nat.reduceLeDiff, reduceIte, ha, h.hm, hget, hap, ha', hw, hc1, hs1]
  exact hfin fun b x e => by rw [hl] at e; cases e
 | some p =>
  obtain ⟨b, x⟩ := p
  rw [hl] at hget
  simp only [Option.map_some, Option.getD_some, Option.isSome_some] at hget
  have hmem := lkO_mem hl
  have hb := h.ho _ hmem
  dsimp only at hb
  cases h2 : (x.pc.st != 2)
  case true =>
   simp only [go_sem, Nat.reduceEqDiff, Nat.reduceAdd, Nat.reduceLT, Nat.reduceLeDiff, reduceIte, ha, h.hm, hget, hb, h2, hap, ha', hw, hc1, hs1]
   exact hfin fun b' x' e => by rw [hl] at e; cases e; simpa using h2
  have h2' : x.pc.st = 2 := by simpa using h2
  simp only [go_sem, Nat.reduceEqDiff, Nat.reduceAdd, Nat.reduceLT, Nat.reduceLeDiff, reduceIte, ha, h.hm, hget, hb, h2, wO0]
  refine hK1 b x hl h2' _ (h.upd hmem _) ?_
  rcases hv with hv | ⟨hne, id, rfl, hid, hri, hfi⟩
  ·exact .inl hv
  ·refine .inr ⟨hne, id, rfl, ?_, hri, hfi⟩
   rw [List.getElem?_set_ne (fun e => by rw [← e, hb] at hid; simp at hid)]; exact hid
end Go.Ab.T
end
