/-
 A part of the proofs over this seat.
 (The texts KwK28 KwK29, one behind the other.)
-/
import Derived.Test.YtikfmbopfconkaaP10
set_option linter.unusedSimpArgs false
set_option linter.unusedVariables false
set_option linter.unusedSectionVars false
section
namespace Go.Ab.T
set_option maxRecDepth 8000
set_option maxHeartbeats 4000000
/-- A slice that grows behind a token of its own. -/
def AccG (T : Nat) (es : List AV) (v : AV) (tk : List (Nat × Nat)) : Prop := (es = [] ∧ v = .sl [] .tight) ∨ (es ≠ [] ∧ ∃ t, v = .sl es (.at t) ∧ tk[t]? = some (es.length, T))
theorem AccG.more {T : Nat} {es : List AV} {v : AV} {tk : List (Nat × Nat)} (h : AccG T es v tk) (x : List (Nat × Nat)) : AccG T es v (tk ++ x) := by
 rcases h with h | ⟨h1, t, h2, h3⟩
 ·exact .inl h
 ·exact .inr ⟨h1, t, h2, by rw [List.getElem?_append_left (List.getElem?_eq_some_iff.1 h3).1]; exact h3⟩
theorem AccG.appL {T sz bytes : Nat} {es : List AV} {v : AV} {tk : List (Nat × Nat)} (h : AccG T es v tk) (ys : List AV) (q : Tk) (bl : List Blk) (hs : ∀ e ∈ es, e.cells.length = sz) (hy : ∀ y ∈ ys, y.cells.length = sz) (hl : (es.length + ys.length) * (bytes + 1) ≤ limit) :
  ∃ v' tk', appendAt ⟨bl, tk⟩ false v (.sl ys q) T sz bytes = some (v', ⟨bl, tk'⟩) ∧ AccG T (es ++ ys) v' tk' := by
 have h1 : hdSz ys sz = true := by
  cases ys with
  | nil => rfl
  | cons y r => simp [hdSz, hy y (by simp)]
 have h2 : hdSz es sz = true := by
  cases es with
  | nil => rfl
  | cons e r => simp [hdSz, hs e (by simp)]
 by_cases hy0 : ys = []
 ·subst hy0
  refine ⟨v, tk, ?_, by simpa using h⟩
  rcases h with ⟨rfl, rfl⟩ | ⟨hne, t, rfl, ht⟩
  ·simp only [appendAt, Mem.elems, h1]
   rw [if_neg (by simp), if_pos ⟨hl, (by first | trivial | rfl)⟩]
   rfl
  ·simp only [appendAt, Mem.elems, h1]
   rw [if_neg (by simp), if_pos ⟨hl, h2⟩, if_neg (by simp)]
   simp only [appTk, List.length_nil, if_true, Option.map_some, List.append_nil]
 ·have hyl : ys.length ≠ 0 := fun e => hy0 (List.eq_nil_of_length_eq_zero e)
  rcases h with ⟨rfl, rfl⟩ | ⟨hne, t, rfl, ht⟩
  ·refine ⟨.sl ys (.at tk.length), tk ++ [(ys.length, T)], ?_, .inr ⟨by simpa using hy0, tk.length, by simp, by simp⟩⟩
   simp only [appendAt, Mem.elems, h1]
   rw [if_neg (by simp), if_pos ⟨hl, (by first | trivial | rfl)⟩, if_neg (by simp)]
   simp only [appTk, List.length_nil]
   rw [if_neg hyl]
   simp
  ·have hlt : t < tk.length := (List.getElem?_eq_some_iff.1 ht).1
   have h0 : es.length ≠ 0 := fun h => hne (List.eq_nil_of_length_eq_zero h)
   refine ⟨.sl (es ++ ys) (.at t), tk.set t (es.length + ys.length, T), ?_, .inr ⟨by simp [hne], t, rfl, by simp [hlt]⟩⟩
   simp only [appendAt, Mem.elems, h1]
   rw [if_neg (by simp), if_pos ⟨hl, h2⟩, if_neg (by simp)]
   simp only [appTk]
   rw [if_neg hyl, if_pos ⟨ht, h0⟩]
   rfl
theorem AccG.cells {T : Nat} {es : List AV} {v : AV} {tk : List (Nat × Nat)} (h : AccG T es v tk) : v.cells = [v] ∧ v.solid = true ∧ v.isAgg = false := by
 rcases h with ⟨rfl, rfl⟩ | ⟨_, _, rfl, _⟩ <;> exact ⟨rfl, rfl, rfl⟩
theorem AccG.snap {T : Nat} {es : List AV} {v : AV} {tk : List (Nat × Nat)} (h : AccG T es v tk) (m : Mem) (k : Nat) : Ab.snap m (k + 1) v = .sl (es.map (Ab.snap m k)) .unk := by
 rcases h with ⟨rfl, rfl⟩ | ⟨_, _, rfl, _⟩ <;> rfl
/-- Some numbers and one more, in a slice of their own. -/
theorem app2_ok (f : List Int) (x : Int) (hl : f.length ≤ 1000) (bl : List Blk) (tk : List (Nat × Nat)) : ∃ v1 tk1 v2 q ext, appendAt ⟨bl, tk⟩ false (.sl [] .tight) (encIs f) 3 1 8 = some (v1, ⟨bl, tk1⟩) ∧ (∃ es q0, v1 = .sl es q0) ∧
  appendAt ⟨bl, tk1⟩ false v1 (.sl [I64 x] .tight) 3 1 8 = some (v2, ⟨bl, tk ++ ext⟩) ∧ v2 = .sl ((f ++ [x]).map I64) q := by
 cases f with
 | nil =>
  refine ⟨.sl [] .tight, tk, .sl [I64 x] (.at tk.length), .at tk.length, [(1, 3)], rfl, ⟨_, _, rfl⟩, ?_, rfl⟩
  simp only [appendAt, Mem.elems, hdSz, cells_int, List.length_cons, List.length_nil, beq_self_eq_true, Bool.true_eq_false, if_false]
  rw [if_pos ⟨by simp only [limit]; omega, trivial⟩]
  rfl
 | cons y r =>
  simp only [List.length_cons] at hl
  refine ⟨.sl ((y :: r).map I64) (.at tk.length), tk ++ [((y :: r).length, 3)], .sl ((y :: r ++ [x]).map I64) (.at tk.length), .at tk.length, [((y :: r).length + 1, 3)], ?_, ⟨_, _, rfl⟩, ?_, rfl⟩
  ·simp only [appendAt, Mem.elems, encIs, hdSz, List.map_cons, cells_int, List.length_cons, List.length_nil, List.length_map, beq_self_eq_true, Bool.true_eq_false, if_false, Bool.false_eq_true, List.nil_append]
   rw [if_pos ⟨by simp only [limit]; omega, trivial⟩]
   simp only [appTk]
   rw [if_neg (by omega)]
   simp
  ·simp only [appendAt, Mem.elems, hdSz, List.map_cons, cells_int, List.length_cons, List.length_nil, List.length_map, beq_self_eq_true, Bool.true_eq_false, if_false, Bool.false_eq_true, List.cons_append]
   rw [if_pos ⟨by simp only [limit]; omega, trivial⟩]
   simp only [appTk]
   rw [if_neg (by omega), if_pos ⟨by simp, by omega⟩]
   simp
/-- A film or none. -/
def fms (F : Nat) : List Int := (List.range (F + 1)).map fun (i : Nat) => (i : Int) - 1
def fmK (k : Nat) : List Int := (List.range k).map fun (i : Nat) => (i : Int) - 1
theorem fmK_succ (k : Nat) : fmK (k + 1) = fmK k ++ [(k : Int) - 1] := by unfold fmK; rw [List.range_succ, List.map_append]; rfl
/-- All programs that begin with some slots. -/
def progsR (F : Nat) : Nat → List Int → List (List Int)
 | 0, f => [f]
 | n + 1, f => (fms F).flatMap fun x => progsR F n (f ++ [x])
theorem progsR_len (F : Nat) : ∀ (n : Nat) (f : List Int), (progsR F n f).length = (F + 1) ^ n
 | 0, _ => rfl
 | n + 1, f => by
  rw [progsR, List.length_flatMap]
  rw [show (fun a => (progsR F n (f ++ [a])).length) = fun _ => (F + 1) ^ n from funext fun a => progsR_len F n _]
  unfold fms
  rw [List.map_map]
  have : ∀ k c : Nat, ((List.range k).map fun _ => c).sum = k * c := fun k c => by
   induction k with
   | zero => simp
   | succ k ih => rw [List.range_succ, List.map_append, List.sum_append, ih, Nat.succ_mul]; simp
  rw [Nat.pow_succ, Nat.mul_comm]
  exact this _ _
theorem flat_len (F n : Nat) (f : List Int) : ∀ k : Nat, ((fmK k).flatMap fun x => progsR F n (f ++ [x])).length = k * (F + 1) ^ n
 | 0 => by simp [fmK]
 | k + 1 => by
  rw [fmK_succ, List.flatMap_append, List.length_append, flat_len F n f k, Nat.succ_mul]
  simp [progsR_len]
theorem mem_fms {F : Nat} {x : Int} : x ∈ fms F ↔ -1 ≤ x ∧ x ≤ (F : Int) - 1 := by
 unfold fms
 rw [List.mem_map]
 refine ⟨?_, fun h => ⟨(x + 1).toNat, List.mem_range.2 (by omega), by omega⟩⟩
 rintro ⟨i, hi, rfl⟩
 have := List.mem_range.1 hi
 omega
theorem mem_progsR {F : Nat} : ∀ {n : Nat} {f p : List Int}, p ∈ progsR F n f ↔ ∃ r : List Int, p = f ++ r ∧ r.length = n ∧ ∀ x ∈ r, -1 ≤ x ∧ x ≤ (F : Int) - 1
 | 0, f, p => by
  rw [progsR, List.mem_singleton]
  refine ⟨?_, ?_⟩
  ·rintro rfl; exact ⟨[], by simp, rfl, by simp⟩
  ·rintro ⟨r, rfl, hr, _⟩
   rw [List.eq_nil_of_length_eq_zero hr, List.append_nil]
 | n + 1, f, p => by
  rw [progsR, List.mem_flatMap]
  refine ⟨?_, ?_⟩
  ·rintro ⟨x, hx, hp⟩
   obtain ⟨r, rfl, hr, hin⟩ := mem_progsR.1 hp
   refine ⟨x :: r, by simp, by simp [hr], fun y hy => ?_⟩
   rcases List.mem_cons.1 hy with rfl | hy
   ·exact mem_fms.1 hx
   ·exact hin y hy
  ·rintro ⟨r, rfl, hr, hin⟩
   cases r with
   | nil => simp at hr
   | cons x r =>
    exact ⟨x, mem_fms.2 (hin x (by simp)), mem_progsR.2 ⟨r, by simp, by simpa using hr, fun y hy => hin y (by simp [hy])⟩⟩
def encLs (l : List (List Int)) : AV := .sl (l.map encIs) .unk
theorem Ls_sn (m : Mem) (q : Nat) (l : List (List Int)) : snap m (q + 3) (encLs l) = encLs l := by
 show AV.sl ((l.map encIs).map (snap m (q + 2))) .unk = _
 rw [List.map_map, show snap m (q + 2) ∘ encIs = encIs from funext fun x => snIs m q x]; rfl
theorem Ls_len (m : Mem) (l : List (List Int)) : lenAt m (encLs l) = some (I64 l.length) := by unfold encLs; rw [lenAt_sl, List.length_map]
theorem Ls_idx (m : Mem) {l : List (List Int)} {k : Nat} {x : List Int} (h : l[k]? = some x) : idxAt m (encLs l) (I64 (k : Int)) 1 = some (.pv (encIs x) 0) := by
 unfold encLs
 rw [idxAt_sl, if_pos (by omega), Int.toNat_natCast, List.getElem?_map, h]; rfl
theorem apart_psl (a b c : Nat) (es : List AV) (q : Tk) : apart (.ptr a b c) (.sl es q) = true := rfl
theorem pow_le8 {F n : Nat} (hF : F ≤ 4) (hn : n ≤ 8) : (F + 1) ^ n ≤ 390625 :=
 Nat.le_trans (Nat.pow_le_pow_left (by omega) n) (Nat.pow_le_pow_right (show 0 < 5 by decide) hn)
theorem Programs_ok (w : Wk) (hw : WV w) : ∀ (n : Nat) (f : List Int), ((f.length + n : Nat) : Int) = w.slots → RV ft 76 [encW w, encIs f] (encLs (progsR w.films.length n f)) := by
 have hS := Slots_ok w (by have := hw.d1; omega) hw.d2 hw.r2 (by have := hw.h1; omega) hw.h2
 have hs8 := hw.s
 have hF := hw.f
 intro n
 induction n with
 | zero =>
  intro f hf
  refine RV_of ft76 rfl ?_
  simp only [c76, r76]
  have he : ((f.length : Int) == w.slots) = true := by rw [beq_iff_eq]; omega
  simp only [go_sem, Nat.reduceEqDiff, Nat.reduceAdd, Nat.reduceLT, Nat.reduceLeDiff, reduceIte, WCells, WEta, FCells, FEta, DCells, DEta, cellsIs, solidIs, cellsFs, solidFs, cellsDs, solidDs, Bool.and_self, Is_len, Fs_len, Ds_len, true_and, snW, hotW, snD, hotD, snIs, hotIs, WB39, WVH_eq hS, he]
  rfl
 | succ n ih =>
  intro f hf
  refine RV_of ft76 rfl ?_
  simp only [c76, r76]
  have he : ((f.length : Int) == w.slots) = false := by rw [beq_eq_false_iff_ne]; omega
  simp only [go_sem, Nat.reduceEqDiff, Nat.reduceAdd, Nat.reduceLT, Nat.reduceLeDiff, reduceIte, WCells, WEta, FCells, FEta, DCells, DEta, cellsIs, solidIs, cellsFs, solidFs, cellsDs, solidDs, Bool.and_self, Is_len, Fs_len, Ds_len, true_and, snW, hotW, snD, hotD, snIs, hotIs, WB39, WVH_eq hS, he]
  refine WL_inv (α := Nat) (fun k e mm => e 1 = encIs f ∧ e 2 = .ptr 0 0 0 ∧ e 6 = I64 ((k : Int) - 1) ∧ k ≤ w.films.length + 1 ∧ ∃ tk, mm = ⟨[.live [encW w] 5], tk⟩ ∧ AccG 22 (((fmK k).flatMap fun x => progsR w.films.length n (f ++ [x])).map encIs) (e 5) tk) (fun k => w.films.length + 1 - k) 0 ?_ ?_
  ·simp only [go_sem, Nat.reduceEqDiff, Nat.reduceAdd, Nat.reduceLT, Nat.reduceLeDiff, reduceIte]
   refine ⟨trivial, trivial, rfl, ?_⟩
   first | exact ⟨_, rfl, .inl ⟨rfl, rfl⟩⟩ | exact ⟨Nat.zero_le _, _, rfl, .inl ⟨rfl, rfl⟩⟩ | exact ⟨trivial, _, rfl, .inl ⟨rfl, rfl⟩⟩
  rintro k e m ⟨g1, g2, g6, hk, tk, rfl, hA⟩
  obtain ⟨v5, g5⟩ : ∃ v, e 5 = v := ⟨_, rfl⟩
  rw [g5] at hA
  obtain ⟨c1, c2, c3⟩ := hA.cells
  by_cases hlt : k < w.films.length + 1
  ·have hd : decide ((k : Int) - 1 < (w.films.length : Int)) = true := decide_eq_true (by omega)
   obtain ⟨v1, tk1, v2, q, ext, a1, ⟨es1, q1, rfl⟩, a2, rfl⟩ := app2_ok f ((k : Int) - 1) (by omega) [.live [encW w] 5] tk
   have hih := ih (f ++ [(k : Int) - 1]) (by simp; omega)
   have hlen1 : (((fmK k).flatMap fun x => progsR w.films.length n (f ++ [x])).map encIs).length = k * (w.films.length + 1) ^ n := by rw [List.length_map, flat_len]
   have hp := pow_le8 (n := n) hF (by omega)
   have hkp : k * (w.films.length + 1) ^ n ≤ 5 * 390625 := Nat.mul_le_mul (by omega) hp
   obtain ⟨v6, tk6, a3, hA2⟩ := (hA.more ext).appL (sz := 1) (bytes := 24) ((progsR w.films.length n (f ++ [(k : Int) - 1])).map encIs) .unk [.live [encW w] 5] (fun e he => by obtain ⟨z, _, rfl⟩ := List.mem_map.1 he; rfl) (fun e he => by obtain ⟨z, _, rfl⟩ := List.mem_map.1 he; rfl) (by
    rw [hlen1, List.length_map, progsR_len]; simp only [limit]; omega)
   have a3' : appendAt ⟨[.live [encW w] 5], tk ++ ext⟩ false v5 (encLs (progsR w.films.length n (f ++ [(k : Int) - 1]))) 22 1 24 = some (v6, ⟨[.live [encW w] 5], tk6⟩) := a3
   obtain ⟨d1, d2, d3⟩ := hA2.cells
   have hw1 : IntKind.i64.wrap ((k : Int) - 1 + 1) = ((k + 1 : Nat) : Int) - 1 := by rw [wrap_i64 _ (by omega) (by omega)]; omega
   simp only [go_sem, Nat.reduceEqDiff, Nat.reduceAdd, Nat.reduceLT, Nat.reduceLeDiff, reduceIte, g1, g2, g5, g6, WCells, WEta, FCells, FEta, DCells, DEta, cellsIs, solidIs, cellsFs, solidFs, cellsDs, solidDs, Bool.and_self, Is_len, Fs_len, Ds_len, true_and, snW, hotW, snD, hotD, snIs, hotIs, hd, a1, a2, slI_cells, slI_snap, slI_hot, WB76, WVH_eq hih, a3', apart_psl, hw1]
   refine Nx_of (k + 1) (by show w.films.length + 1 - (k + 1) < w.films.length + 1 - k; omega) ?_
   simp only [go_sem, Nat.reduceEqDiff, Nat.reduceAdd, Nat.reduceLT, Nat.reduceLeDiff, reduceIte, g1, g2]
   refine ⟨trivial, trivial, trivial, by omega, _, rfl, ?_⟩
   rw [fmK_succ, List.flatMap_append, List.map_append]
   rw [show ([(k : Int) - 1] : List Int).flatMap (fun x => progsR w.films.length n (f ++ [x])) = progsR w.films.length n (f ++ [(k : Int) - 1]) by simp]
   exact hA2
  ·have hd : decide ((k : Int) - 1 < (w.films.length : Int)) = false := decide_eq_false (by omega)
   have hke : k = w.films.length + 1 := by omega
   subst hke
   simp only [go_sem, Nat.reduceEqDiff, Nat.reduceAdd, Nat.reduceLT, Nat.reduceLeDiff, reduceIte, g1, g2, g5, g6, WCells, WEta, FCells, FEta, DCells, DEta, cellsIs, solidIs, cellsFs, solidFs, cellsDs, solidDs, Bool.and_self, Is_len, Fs_len, Ds_len, true_and, snW, hotW, snD, hotD, snIs, hotIs, hd, hA.snap]
   rw [List.map_map, show snap ⟨[.live [encW w] 5], tk⟩ 8 ∘ encIs = encIs from funext fun x => snIs _ _ x]
   rfl
theorem allP {w : Wk} (hw : WV w) {p : List Int} : p ∈ progsR w.films.length w.slots.toNat [] ↔ progOK w p = true := by
 rw [mem_progsR, ← Part_iff hw]
 unfold Part
 refine ⟨?_, fun ⟨h1, h2⟩ => ⟨p, rfl, h1, fun x hx => by have := h2 x hx; omega⟩⟩
 rintro ⟨r, rfl, h1, h2⟩
 exact ⟨by simpa using h1, fun f hf => by have := h2 f (by simpa using hf); omega⟩
/-- The greatest takings of some programs that keep all deals, from a number on. -/
def mostF (w : Wk) (n : Int) (l : List (List Int)) : Int := l.foldl (fun n p => if brokenL w p w.deals 0 = [] then max n (takeS w p) else n) n
theorem mostR_ok (w : Wk) (hc : chkW w = 0) : RV ft 50 [encW w] (I64 (mostF w (-1) (progsR w.films.length w.slots.toNat []))) := by
 have hw := WV_of (chkW_ok hc).1
 have hds := chkW_DV hc
 have hs0 := slots_nn hw
 refine RV_of ft50 rfl ?_
 simp only [c50, r50]
 have hP := Programs_ok w hw w.slots.toNat [] (by rw [List.length_nil]; omega)
 have hnil : ∀ (m : Mem) (q : Nat), snap m (q + 1) (.sl [] .tight) = encIs [] := fun m q => rfl
 generalize hL : progsR w.films.length w.slots.toNat [] = L at *
 have hLok : ∀ p ∈ L, progOK w p = true := fun p hp => (allP hw).1 (by rw [hL]; exact hp)
 have hLlen : L.length ≤ 390625 := by rw [← hL, progsR_len]; exact pow_le8 hw.f (by have := hw.s; omega)
 simp only [go_sem, Nat.reduceEqDiff, Nat.reduceAdd, Nat.reduceLT, Nat.reduceLeDiff, reduceIte, WCells, WEta, FCells, FEta, DCells, DEta, cellsIs, solidIs, cellsFs, solidFs, cellsDs, solidDs, Bool.and_self, Is_len, Fs_len, Ds_len, true_and, snW, hotW, snD, hotD, snIs, hotIs, hnil, WB76, WVH_eq hP]
 refine WL_inv (α := Nat × List (List Int) × Int) (fun q e mm => e 1 = .ptr 0 0 0 ∧ e 3 = I64 q.2.2 ∧ e 4 = encLs L ∧ e 5 = I64 q.1 ∧ L.drop q.1 = q.2.1 ∧ mostF w q.2.2 q.2.1 = mostF w (-1) L ∧ mm = ⟨[.live [encW w] 5], []⟩) (fun q => q.2.1.length) (0, L, -1) ?_ ?_
 ·simp only [go_sem, Nat.reduceEqDiff, Nat.reduceAdd, Nat.reduceLT, Nat.reduceLeDiff, reduceIte]
  (repeat' apply And.intro) <;> first | trivial | rfl
 rintro ⟨k, r, n⟩ e m ⟨g1, g3, g4, g5, hdr, hq, rfl⟩
 dsimp only at g3 g5 hdr hq
 cases r with
 | nil =>
  have hge := drop_nil hdr
  simp only [go_sem, Nat.reduceEqDiff, Nat.reduceAdd, Nat.reduceLT, Nat.reduceLeDiff, reduceIte, g1, g3, g4, g5, WCells, WEta, FCells, FEta, DCells, DEta, cellsIs, solidIs, cellsFs, solidFs, cellsDs, solidDs, Bool.and_self, Is_len, Fs_len, Ds_len, true_and, snW, hotW, snD, hotD, snIs, hotIs, Ls_len, dec_ge hge]
  rw [← hq]; rfl
 | cons p r =>
  obtain ⟨hk, hd2, hlt⟩ := drop_cons hdr
  have hp := hLok p (List.mem_of_getElem? hk)
  have hbr := broken_ok w hw hds p hp
  rw [broken_eq p w.deals 0 hds] at hbr
  have hta := takingsR_ok w hw p hp
  rw [takeR_eq hw hp] at hta
  have hb0 : ∀ n : Nat, ((n : Int) == 0) = decide (n = 0) := fun n => by rw [Bool.eq_iff_iff, beq_iff_eq, decide_eq_true_eq]; omega
  by_cases hb : brokenL w p w.deals 0 = []
  ·rw [hb] at hbr
   simp only [go_sem, Nat.reduceEqDiff, Nat.reduceAdd, Nat.reduceLT, Nat.reduceLeDiff, reduceIte, g1, g3, g4, g5, WCells, WEta, FCells, FEta, DCells, DEta, cellsIs, solidIs, cellsFs, solidFs, cellsDs, solidDs, Bool.and_self, Is_len, Fs_len, Ds_len, true_and, snW, hotW, snD, hotD, snIs, hotIs, Ls_len, dec_lt hlt, Ls_idx _ hk, WB46, WVH_eq hbr, Ns_len, WB48, WVH_eq hta, wrap_n1 k (by omega), show (((0 : Nat) : Int) == 0) = true from rfl, mnx_max]
   refine Nx_of (k + 1, r, max n (takeS w p)) (by simp) ?_
   simp only [go_sem, Nat.reduceEqDiff, Nat.reduceAdd, Nat.reduceLT, Nat.reduceLeDiff, reduceIte, g1, g4]
   exact ⟨trivial, trivial, trivial, trivial, hd2, by rw [← hq]; unfold mostF; rw [List.foldl_cons, if_pos hb], trivial⟩
  ·have hbl : decide ((brokenL w p w.deals 0).length = 0) = false := decide_eq_false fun h => hb (List.eq_nil_of_length_eq_zero h)
   simp only [go_sem, Nat.reduceEqDiff, Nat.reduceAdd, Nat.reduceLT, Nat.reduceLeDiff, reduceIte, g1, g3, g4, g5, WCells, WEta, FCells, FEta, DCells, DEta, cellsIs, solidIs, cellsFs, solidFs, cellsDs, solidDs, Bool.and_self, Is_len, Fs_len, Ds_len, true_and, snW, hotW, snD, hotD, snIs, hotIs, Ls_len, dec_lt hlt, Ls_idx _ hk, WB46, WVH_eq hbr, Ns_len, hb0, hbl, wrap_n1 k (by omega)]
   refine Nx_of (k + 1, r, n) (by simp) ?_
   simp only [go_sem, Nat.reduceEqDiff, Nat.reduceAdd, Nat.reduceLT, Nat.reduceLeDiff, reduceIte, g1, g3, g4]
   exact ⟨trivial, trivial, trivial, trivial, hd2, by rw [← hq]; unfold mostF; rw [List.foldl_cons, if_neg hb], trivial⟩
theorem mostF_spec (w : Wk) : ∀ (l : List (List Int)) (n : Int), n ≤ mostF w n l ∧ (∀ p ∈ l, brokenL w p w.deals 0 = [] → takeS w p ≤ mostF w n l) ∧ (mostF w n l = n ∨ ∃ p ∈ l, brokenL w p w.deals 0 = [] ∧ takeS w p = mostF w n l)
 | [], n => ⟨Int.le_refl n, by simp, .inl rfl⟩
 | p :: l, n => by
  by_cases hb : brokenL w p w.deals 0 = []
  ·have hs : mostF w n (p :: l) = mostF w (max n (takeS w p)) l := by unfold mostF; rw [List.foldl_cons, if_pos hb]
   obtain ⟨h1, h2, h3⟩ := mostF_spec w l (max n (takeS w p))
   rw [hs]
   refine ⟨by omega, fun q hq hbq => ?_, ?_⟩
   ·rcases List.mem_cons.1 hq with rfl | hq
    ·omega
    ·exact h2 q hq hbq
   ·rcases h3 with h3 | ⟨q, hq, hbq, he⟩
    ·rcases Int.le_total n (takeS w p) with h | h
     ·exact .inr ⟨p, by simp, hb, by omega⟩
     ·exact .inl (by omega)
    ·exact .inr ⟨q, by simp [hq], hbq, he⟩
  ·have hs : mostF w n (p :: l) = mostF w n l := by unfold mostF; rw [List.foldl_cons, if_neg hb]
   obtain ⟨h1, h2, h3⟩ := mostF_spec w l n
   rw [hs]
   refine ⟨h1, fun q hq hbq => ?_, ?_⟩
   ·rcases List.mem_cons.1 hq with rfl | hq
    ·exact absurd hbq hb
    ·exact h2 q hq hbq
   ·rcases h3 with h3 | ⟨q, hq, hbq, he⟩
    ·exact .inl h3
    ·exact .inr ⟨q, by simp [hq], hbq, he⟩
def mostN (w : Wk) : Int := mostF w (-1) (progsR w.films.length w.slots.toNat [])
/-- The reference's most: -1 just if no program keeps all deals. -/
theorem mostN_spec {w : Wk} (hc : chkW w = 0) : (mostN w = -1 ∧ ∀ p, progOK w p = true → ¬keepsAll w p) ∨ (0 ≤ mostN w ∧ IsMost w (mostN w) 0) := by
 have hw := WV_of (chkW_ok hc).1
 obtain ⟨h1, h2, h3⟩ := mostF_spec w (progsR w.films.length w.slots.toNat []) (-1)
 have hle : ∀ p, progOK w p = true → keepsAll w p → takeS w p ≤ mostN w := fun p hp hk => h2 p ((allP hw).2 hp) (keepsAll_broken.1 hk)
 rcases h3 with h3 | ⟨p, hp, hb, he⟩
 ·have h3 : mostN w = -1 := h3
  refine .inl ⟨h3, fun p hp hk => ?_⟩
  have h4 := hle p hp hk
  have h5 := takeS_nn hc (p := p)
  omega
 ·have he : takeS w p = mostN w := he
  have h5 := takeS_nn hc (p := p)
  exact .inr ⟨by omega, .inr ⟨rfl, ⟨p, (allP hw).1 hp, keepsAll_broken.2 hb, he⟩, hle⟩⟩
theorem MostR_ok (w : Wk) : RV ft 23 [encW w] (.tup [I64 (bestO w).1.tk, I64 (bestO w).2]) := by
 refine RV_of ft23 rfl ?_
 simp only [c23, r23]
 by_cases h0 : chkW w = 0
 case neg =>
  have n0 : (chkW w != 0) = true := by rw [bne, beq_eq_false_iff_ne.2 h0]; rfl
  have hb : bestO w = (zeroP, chkW w) := by unfold bestO; rw [if_neg h0]
  rw [hb]
  simp only [go_sem, Nat.reduceEqDiff, Nat.reduceAdd, Nat.reduceLT, Nat.reduceLeDiff, reduceIte, WCells, WEta, FCells, FEta, DCells, DEta, cellsIs, solidIs, cellsFs, solidFs, cellsDs, solidDs, Bool.and_self, Is_len, Fs_len, Ds_len, true_and, snW, hotW, snD, hotD, snIs, hotIs, WB15, WVH_eq (CheckR_ok w), n0]
  rfl
 have hM := mostR_ok w h0
 rw [show mostF w (-1) (progsR w.films.length w.slots.toNat []) = mostN w from rfl] at hM
 rcases mostN_spec h0 with ⟨h1, h2⟩ | ⟨h1, h2⟩
 ·have hu := (Most_spec h0).uniq (.inl ⟨rfl, rfl, h2⟩)
  rw [h1] at hM
  rw [hu.1, hu.2]
  simp only [go_sem, Nat.reduceEqDiff, Nat.reduceAdd, Nat.reduceLT, Nat.reduceLeDiff, reduceIte, WCells, WEta, FCells, FEta, DCells, DEta, cellsIs, solidIs, cellsFs, solidFs, cellsDs, solidDs, Bool.and_self, Is_len, Fs_len, Ds_len, true_and, snW, hotW, snD, hotD, snIs, hotIs, WB15, WVH_eq (CheckR_ok w), h0, show ((0 : Int) != 0) = false from rfl, WB50, WVH_eq hM, show decide ((-1 : Int) < 0) = true from rfl]
 ·have hu := (Most_spec h0).uniq h2
  rw [hu.1, hu.2]
  simp only [go_sem, Nat.reduceEqDiff, Nat.reduceAdd, Nat.reduceLT, Nat.reduceLeDiff, reduceIte, WCells, WEta, FCells, FEta, DCells, DEta, cellsIs, solidIs, cellsFs, solidFs, cellsDs, solidDs, Bool.and_self, Is_len, Fs_len, Ds_len, true_and, snW, hotW, snD, hotD, snIs, hotIs, WB15, WVH_eq (CheckR_ok w), h0, show ((0 : Int) != 0) = false from rfl, WB50, WVH_eq hM, decide_eq_false (show ¬ mostN w < 0 by omega)]
end Go.Ab.T
end

section
namespace Go.Ab.T
set_option maxRecDepth 8000
set_option maxHeartbeats 4000000
theorem andNot_i64 (a b : Nat) (ha : a < 9223372036854775808) (hb : b < 9223372036854775808) : andNotI .i64 (a : Int) (b : Int) = ((andn a b : Nat) : Int) := by
 show IntKind.i64.wrap ((BitVec.ofInt 64 (a : Int) &&& ~~~(BitVec.ofInt 64 (b : Int))).toNat : Int) = _
 have h1 : (BitVec.ofInt 64 (a : Int) &&& ~~~(BitVec.ofInt 64 (b : Int))).toNat = andn a b := by
  rw [← BitVec.allOnes_xor, BitVec.toNat_and, BitVec.toNat_xor, BitVec.ofInt_natCast, BitVec.ofInt_natCast, BitVec.toNat_ofNat, BitVec.toNat_ofNat, Nat.mod_eq_of_lt (by omega), Nat.mod_eq_of_lt (by omega)]
  rfl
 have h2 : andn a b ≤ a := Nat.and_le_left
 rw [h1, wrap_i64 _ (by omega) (by omega)]
theorem shl_i64 (n : Nat) (h : n ≤ 8) : IntKind.i64.wrap (1 * 2 ^ min ((n : Nat) : Int).toNat 64) = ((2 ^ n : Nat) : Int) := by
 have h256 : 2 ^ n ≤ 256 := Nat.pow_le_pow_right (show 0 < 2 by decide) h
 rw [mn64 _ (by omega), Int.one_mul, show (2 : Int) ^ n = ((2 ^ n : Nat) : Int) by rw [Int.natCast_pow]; rfl]
 generalize 2 ^ n = k at h256 ⊢
 exact wrap_i64 _ (by omega) (by omega)
theorem hasN_ok (l : List Nat) (s : Nat) (hl : l.length < 1073741824) : RV ft 81 [encNs l, I64 s] (.bool (l.any fun x => decide (x = s))) := by
 refine RV_of ft81 rfl ?_
 simp only [c81, r81]
 generalize hT : (l.any fun x => decide (x = s)) = T
 simp only [go_sem, Nat.reduceEqDiff, Nat.reduceAdd, Nat.reduceLT, Nat.reduceLeDiff, reduceIte]
 refine WL_inv (α := Nat × List Nat) (fun q e mm => e 0 = encNs l ∧ e 1 = I64 s ∧ e 5 = I64 q.1 ∧ l.drop q.1 = q.2 ∧ (q.2.any fun x => decide (x = s)) = T) (fun q => q.2.length) (0, l) ?_ ?_
 ·simp only [go_sem, Nat.reduceEqDiff, Nat.reduceAdd, Nat.reduceLT, Nat.reduceLeDiff, reduceIte]
  exact ⟨trivial, trivial, rfl, trivial, hT⟩
 rintro ⟨k, r⟩ e m ⟨g0, g1, g5, hdr, hq⟩
 dsimp only at g5 hdr hq
 cases r with
 | nil =>
  have hge := drop_nil hdr
  simp only [go_sem, Nat.reduceEqDiff, Nat.reduceAdd, Nat.reduceLT, Nat.reduceLeDiff, reduceIte, g0, g1, g5, Ns_len, dec_ge hge]
  rw [← hq]; rfl
 | cons x r =>
  obtain ⟨hk, hd2, hlt⟩ := drop_cons hdr
  by_cases hx : x = s
  ·simp only [go_sem, Nat.reduceEqDiff, Nat.reduceAdd, Nat.reduceLT, Nat.reduceLeDiff, reduceIte, g0, g1, g5, Ns_len, dec_lt hlt, Ns_idx _ hk, beq_nat, decide_eq_true hx]
   rw [← hq]; simp [hx]
  ·simp only [go_sem, Nat.reduceEqDiff, Nat.reduceAdd, Nat.reduceLT, Nat.reduceLeDiff, reduceIte, g0, g1, g5, Ns_len, dec_lt hlt, Ns_idx _ hk, beq_nat, decide_eq_false hx, wrap_n1 k (by omega)]
   refine Nx_of (k + 1, r) (by simp) ?_
   simp only [go_sem, Nat.reduceEqDiff, Nat.reduceAdd, Nat.reduceLT, Nat.reduceLeDiff, reduceIte, g0, g1]
   exact ⟨trivial, trivial, trivial, hd2, by rw [← hq]; simp [hx]⟩
theorem els_tab : ∀ s : _root_.Fin 256, numsN s.val = (List.range 8).filter s.val.testBit := by decide +kernel
theorem elements_ok (s : Nat) (hs : s < 256) : RV ft 55 [I64 s] (encNs (numsN s)) := by
 refine RV_of ft55 rfl ?_
 simp only [c55, r55]
 have htab := els_tab ⟨s, hs⟩
 dsimp only at htab
 simp only [go_sem, Nat.reduceEqDiff, Nat.reduceAdd, Nat.reduceLT, Nat.reduceLeDiff, reduceIte]
 refine WL_inv (α := Nat × List Nat) (fun q e mm => e 0 = I64 s ∧ e 4 = I64 q.1 ∧ q.1 ≤ 8 ∧ q.2 = (List.range q.1).filter s.testBit ∧ q.2.length ≤ q.1 ∧ ∃ v toks, e 3 = v ∧ mm = ⟨[], toks⟩ ∧ Acc 3 (q.2.map fun (n : Nat) => I64 (n : Int)) v toks) (fun q => 8 - q.1) (0, []) ?_ ?_
 ·simp only [go_sem, Nat.reduceEqDiff, Nat.reduceAdd, Nat.reduceLT, Nat.reduceLeDiff, reduceIte]
  exact ⟨trivial, rfl, trivial, rfl, trivial, _, _, rfl, rfl, Acc_nil 3⟩
 rintro ⟨k, acc⟩ e m ⟨g0, g4, hk, ha, hl, v, toks, g3, rfl, hA⟩
 dsimp only at g4 hk ha hl hA
 obtain ⟨c1, c2, c3⟩ := hA.cells
 by_cases hlt : k < 8
 ·have hd : decide ((k : Int) < 8) = true := decide_eq_true (by omega)
  have w1 : IntKind.u64.wrap (k : Int) = (k : Int) := wrap_u64 _ (by omega) (by omega)
  have hb : ((andI .i64 (Int.fdiv (s : Int) (2 ^ min ((k : Nat) : Int).toNat 64)) 1) == 1) = s.testBit k := by
   rw [mn64 k (by omega), shr_nat, and1, show (1 : Int) = ((1 : Nat) : Int) from rfl, beq_nat, testBit_mod]
  have dn : decide ((k : Int) < 0) = false := decide_eq_false (by omega)
  cases h1 : s.testBit k
  ·rw [h1] at hb
   simp only [go_sem, Nat.reduceEqDiff, Nat.reduceAdd, Nat.reduceLT, Nat.reduceLeDiff, reduceIte, g0, g3, g4, hd, w1, dn, hb, wrap_n1 k (by omega)]
   refine Nx_of (k + 1, acc) (by show 8 - (k + 1) < 8 - k; omega) ?_
   simp only [go_sem, Nat.reduceEqDiff, Nat.reduceAdd, Nat.reduceLT, Nat.reduceLeDiff, reduceIte, g0, g3]
   exact ⟨trivial, trivial, (by omega), (by first | (rw [List.filter_append, ← ha]; simp [h1]) | (rw [List.range_succ, List.filter_append, ← ha]; simp [h1])), by omega, _, _, rfl, rfl, hA⟩
  ·rw [h1] at hb
   simp only [go_sem, Nat.reduceEqDiff, Nat.reduceAdd, Nat.reduceLT, Nat.reduceLeDiff, reduceIte, g0, g3, g4, hd, w1, dn, hb, c1, c2, c3]
   refine hA.app (fun e he => by obtain ⟨z, _, rfl⟩ := List.mem_map.1 he; rfl) rfl (by simp only [List.length_map, limit]; omega) fun v' toks' hA' => ?_
   obtain ⟨d1, d2, d3⟩ := hA'.cells
   simp only [go_sem, Nat.reduceEqDiff, Nat.reduceAdd, Nat.reduceLT, Nat.reduceLeDiff, reduceIte, g0, g4, d1, d2, d3, wrap_n1 k (by omega)]
   refine Nx_of (k + 1, acc ++ [k]) (by show 8 - (k + 1) < 8 - k; omega) ?_
   simp only [go_sem, Nat.reduceEqDiff, Nat.reduceAdd, Nat.reduceLT, Nat.reduceLeDiff, reduceIte, g0]
   exact ⟨trivial, trivial, (by omega), (by first | (rw [List.filter_append, ← ha]; simp [h1]) | (rw [List.range_succ, List.filter_append, ← ha]; simp [h1])), by simp; omega, _, _, rfl, rfl, by rw [List.map_append]; exact hA'⟩
 ·have he : k = 8 := by omega
  subst he
  simp only [go_sem, Nat.reduceEqDiff, Nat.reduceAdd, Nat.reduceLT, Nat.reduceLeDiff, reduceIte, g0, g3, g4, show decide (((8 : Nat) : Int) < 8) = false from rfl, c1, c2, c3, snNs hA]
  rw [ha, htab]
theorem beforeR_ok (a b : List Nat) (ha : a.length ≤ 8) (hb : b.length ≤ 8) : RV ft 56 [encNs a, encNs b] (.bool (beforeL a b)) := by
 refine RV_of ft56 rfl ?_
 simp only [c56, r56]
 simp only [go_sem, Nat.reduceEqDiff, Nat.reduceAdd, Nat.reduceLT, Nat.reduceLeDiff, reduceIte]
 by_cases hl : a.length = b.length
 case neg =>
  have h3 : ((a.length : Int) == (b.length : Int)) = false := by rw [beq_nat]; exact decide_eq_false hl
  have hB : beforeL a b = decide (a.length < b.length) := by unfold beforeL; simp [hl]
  have hdd : decide ((a.length : Int) < (b.length : Int)) = decide (a.length < b.length) := decide_eq_decide.2 (by omega)
  refine WL_inv (α := Unit) (fun q e mm => e 0 = encNs a ∧ e 1 = encNs b ∧ e 5 = I64 0) (fun _ => 0) () ?_ ?_
  ·simp only [go_sem, Nat.reduceEqDiff, Nat.reduceAdd, Nat.reduceLT, Nat.reduceLeDiff, reduceIte]
  rintro _ e m ⟨g0, g1, g5⟩
  by_cases h0 : (0 : Int) < (a.length : Int)
  ·simp only [go_sem, Nat.reduceEqDiff, Nat.reduceAdd, Nat.reduceLT, Nat.reduceLeDiff, reduceIte, g0, g1, g5, Ns_len, decide_eq_true h0, h3, hdd, hB]
  ·simp only [go_sem, Nat.reduceEqDiff, Nat.reduceAdd, Nat.reduceLT, Nat.reduceLeDiff, reduceIte, g0, g1, g5, Ns_len, decide_eq_false h0, h3, hdd, hB]
 have h3 : ((a.length : Int) == (b.length : Int)) = true := by rw [beq_nat]; exact decide_eq_true hl
 have hB : beforeL a b = decide (cmpL a b < 0) := by unfold beforeL; simp [hl]
 refine WL_inv (α := Nat × List Nat × List Nat) (fun q e mm => e 0 = encNs a ∧ e 1 = encNs b ∧ e 5 = I64 q.1 ∧ a.drop q.1 = q.2.1 ∧ b.drop q.1 = q.2.2 ∧ cmpL q.2.1 q.2.2 = cmpL a b) (fun q => q.2.1.length) (0, a, b) ?_ ?_
 ·simp only [go_sem, Nat.reduceEqDiff, Nat.reduceAdd, Nat.reduceLT, Nat.reduceLeDiff, reduceIte]
  (repeat' apply And.intro) <;> first | trivial | rfl
 rintro ⟨k, r, s⟩ e m ⟨g0, g1, g5, hda, hdb, hq⟩
 dsimp only at g5 hda hdb hq
 cases r with
 | nil =>
  have hge := drop_nil hda
  have hs : s = [] := by rw [← hdb]; exact List.drop_eq_nil_of_le (by omega)
  subst hs
  have hdd : decide ((a.length : Int) < (b.length : Int)) = false := decide_eq_false (by omega)
  simp only [go_sem, Nat.reduceEqDiff, Nat.reduceAdd, Nat.reduceLT, Nat.reduceLeDiff, reduceIte, g0, g1, g5, Ns_len, dec_ge hge, hdd, hB]
  rw [← hq]; rfl
 | cons x r =>
  obtain ⟨hk, hd2, hlt⟩ := drop_cons hda
  cases s with
  | nil => have := drop_nil hdb; omega
  | cons y s =>
   obtain ⟨hk2, hd3, _⟩ := drop_cons hdb
   by_cases hxy : x = y
   ·have hn : ((x : Int) != (y : Int)) = false := by rw [bne, beq_nat, decide_eq_true hxy]; rfl
    simp only [go_sem, Nat.reduceEqDiff, Nat.reduceAdd, Nat.reduceLT, Nat.reduceLeDiff, reduceIte, g0, g1, g5, Ns_len, dec_lt hlt, h3, Ns_idx _ hk, Ns_idx _ hk2, hn, wrap_n1 k (by omega)]
    refine Nx_of (k + 1, r, s) (by simp) ?_
    simp only [go_sem, Nat.reduceEqDiff, Nat.reduceAdd, Nat.reduceLT, Nat.reduceLeDiff, reduceIte, g0, g1]
    exact ⟨trivial, trivial, trivial, hd2, hd3, by rw [← hq]; subst hxy; simp [cmpL]⟩
   ·have hn : ((x : Int) != (y : Int)) = true := by rw [bne, beq_nat, decide_eq_false hxy]; rfl
    have hdd : decide ((x : Int) < (y : Int)) = decide (cmpL a b < 0) := by
     rw [← hq, cmpL]
     rcases Nat.lt_or_ge x y with h | h
     ·rw [if_pos h]; exact (decide_eq_true (by omega)).trans (decide_eq_true (by decide)).symm
     ·rw [if_neg (by omega), if_pos (by omega)]; exact (decide_eq_false (by omega)).trans (decide_eq_false (by decide)).symm
    simp only [go_sem, Nat.reduceEqDiff, Nat.reduceAdd, Nat.reduceLT, Nat.reduceLeDiff, reduceIte, g0, g1, g5, Ns_len, dec_lt hlt, h3, Ns_idx _ hk, Ns_idx _ hk2, hn, hdd, hB]
/-- The deals that a program keeps, as the reference makes them. -/
def setB (s : Nat) (l : List Nat) : Nat := l.foldl (fun s k => andn s (2 ^ k)) s
theorem setB_le : ∀ (l : List Nat) (s : Nat), setB s l ≤ s
 | [], s => Nat.le_refl s
 | k :: l, s => Nat.le_trans (setB_le l _) (andn_le _ _)
theorem setB_bit (n : Nat) : ∀ (l : List Nat) (s : Nat), s < 18446744073709551616 → (setB s l).testBit n = (s.testBit n && !decide (n ∈ l))
 | [], s, _ => by simp [setB]
 | k :: l, s, hs => by
  have h := setB_bit n l (andn s (2 ^ k)) (Nat.lt_of_le_of_lt (andn_le _ _) hs)
  show (setB (andn s (2 ^ k)) l).testBit n = _
  rw [h, andn_bit _ _ _ hs, Nat.testBit_two_pow]
  by_cases h1 : k = n
  ·subst h1; simp
  ·simp [h1, show ¬ n = k from fun e => h1 e.symm]
theorem mem_broken (w : Wk) (p : List Int) (n : Nat) : ∀ (l : List Dl) (k : Nat), n ∈ brokenL w p l k ↔ k ≤ n ∧ ∃ d, l[n - k]? = some d ∧ keepsB w d (shownN d.film p 0 0) = false
 | [], k => by simp [brokenL]
 | d :: r, k => by
  unfold brokenL
  have ih := mem_broken w p n r (k + 1)
  have hshift : k < n → (d :: r)[n - k]? = r[n - (k + 1)]? := fun h => by rw [show n - k = (n - (k + 1)) + 1 by omega, List.getElem?_cons_succ]
  cases hk : keepsB w d (shownN d.film p 0 0)
  ·rw [if_neg (by decide), List.mem_cons, ih]
   refine ⟨fun h => ?_, fun ⟨h1, d', h2, h3⟩ => ?_⟩
   ·rcases h with rfl | ⟨h1, d', h2, h3⟩
    ·exact ⟨Nat.le_refl _, d, by simp, hk⟩
    ·exact ⟨by omega, d', by rw [hshift (by omega)]; exact h2, h3⟩
   ·rcases Nat.eq_or_lt_of_le h1 with rfl | h4
    ·exact .inl rfl
    ·exact .inr ⟨h4, d', by rw [← hshift h4]; exact h2, h3⟩
  ·rw [if_pos rfl, ih]
   refine ⟨fun ⟨h1, d', h2, h3⟩ => ⟨by omega, d', by rw [hshift (by omega)]; exact h2, h3⟩, fun ⟨h1, d', h2, h3⟩ => ?_⟩
   rcases Nat.eq_or_lt_of_le h1 with rfl | h4
   ·rw [Nat.sub_self, List.getElem?_cons_zero] at h2
    cases h2; rw [hk] at h3; cases h3
   ·exact ⟨h4, d', by rw [← hshift h4]; exact h2, h3⟩
def setP (w : Wk) (p : List Int) : Nat := setB (allD w) (brokenL w p w.deals 0)
theorem setP_bit {w : Wk} (hw : WV w) (p : List Int) (n : Nat) : (setP w p).testBit n = keepsAt w p n := by
 unfold setP keepsAt
 rw [setB_bit n _ (allD w) (Nat.lt_trans (allD_lt hw) (by decide)), show (allD w).testBit n = decide (n < w.deals.length) from Nat.testBit_two_pow_sub_one _ _]
 cases hd : w.deals[n]? with
 | none => rw [List.getElem?_eq_none_iff] at hd; rw [decide_eq_false (by omega)]; rfl
 | some d =>
  have := (List.getElem?_eq_some_iff.1 hd).1
  rw [decide_eq_true this, Bool.true_and]
  cases hk : keepsB w d (shownN d.film p 0 0)
  ·rw [decide_eq_true ((mem_broken w p n w.deals 0).2 ⟨Nat.zero_le _, d, hd, hk⟩)]; exact hk.symm
  ·have hn : ¬ n ∈ brokenL w p w.deals 0 := fun h => by
    obtain ⟨_, d', h2, h3⟩ := (mem_broken w p n w.deals 0).1 h
    rw [Nat.sub_zero, hd] at h2
    cases h2; rw [hk] at h3; cases h3
   rw [decide_eq_false hn]; exact hk.symm
/-- The sets that programs keep, each once. -/
def keptS (w : Wk) (out : List Nat) (l : List (List Int)) : List Nat := l.foldl (fun out p => if (out.any fun x => decide (x = setP w p)) = true then out else out ++ [setP w p]) out
theorem keptS_mem (w : Wk) (x : Nat) : ∀ (l : List (List Int)) (out : List Nat), x ∈ keptS w out l ↔ x ∈ out ∨ ∃ p ∈ l, x = setP w p
 | [], out => by simp [keptS]
 | p :: l, out => by
  unfold keptS
  rw [List.foldl_cons]
  show x ∈ keptS w _ l ↔ _
  rw [keptS_mem w x l]
  split
  ·rename_i h
   rw [List.any_eq_true] at h
   obtain ⟨y, hy, he⟩ := h
   have he := of_decide_eq_true he
   refine ⟨fun h => ?_, fun h => ?_⟩
   ·rcases h with h | ⟨q, hq, h⟩
    ·exact .inl h
    ·exact .inr ⟨q, by simp [hq], h⟩
   ·rcases h with h | ⟨q, hq, h⟩
    ·exact .inl h
    ·rcases List.mem_cons.1 hq with rfl | hq
     ·exact .inl (by rw [h, ← he]; exact hy)
     ·exact .inr ⟨q, hq, h⟩
  ·rw [List.mem_append, List.mem_singleton]
   refine ⟨fun h => ?_, fun h => ?_⟩
   ·rcases h with (h | h) | ⟨q, hq, h⟩
    ·exact .inl h
    ·exact .inr ⟨p, by simp, h⟩
    ·exact .inr ⟨q, by simp [hq], h⟩
   ·rcases h with h | ⟨q, hq, h⟩
    ·exact .inl (.inl h)
    ·rcases List.mem_cons.1 hq with rfl | hq
     ·exact .inl (.inr h)
     ·exact .inr ⟨q, hq, h⟩
theorem keptS_len (w : Wk) : ∀ (l : List (List Int)) (out : List Nat), (keptS w out l).length ≤ out.length + l.length
 | [], out => by simp [keptS]
 | p :: l, out => by
  unfold keptS
  rw [List.foldl_cons]
  show (keptS w _ l).length ≤ _
  refine Nat.le_trans (keptS_len w l _) ?_
  split <;> simp <;> omega
theorem keptS_step (w : Wk) (p : List Int) (l : List (List Int)) (out : List Nat) : keptS w out (p :: l) = keptS w (if (out.any fun x => decide (x = setP w p)) = true then out else out ++ [setP w p]) l := rfl
theorem broken_le8 {w : Wk} (hw : WV w) (p : List Int) : (brokenL w p w.deals 0).length ≤ 8 ∧ ∀ x ∈ brokenL w p w.deals 0, x < 8 := by
 have hD := hw.d
 refine ⟨Nat.le_trans (brokenL_len w p w.deals 0) hD, fun x hx => ?_⟩
 obtain ⟨_, d, h, _⟩ := (mem_broken w p x w.deals 0).1 hx
 have := (List.getElem?_eq_some_iff.1 h).1
 omega
theorem keptR_ok (w : Wk) (hc : chkW w = 0) : RV ft 54 [encW w] (encNs (keptS w [] (progsR w.films.length w.slots.toNat []))) := by
 have hw := WV_of (chkW_ok hc).1
 have hds := chkW_DV hc
 have hs0 := slots_nn hw
 have hD := hw.d
 refine RV_of ft54 rfl ?_
 simp only [c54, r54]
 have hP := Programs_ok w hw w.slots.toNat [] (by rw [List.length_nil]; omega)
 have hnil : ∀ (m : Mem) (q : Nat), snap m (q + 1) (.sl [] .tight) = encIs [] := fun m q => rfl
 generalize hL : progsR w.films.length w.slots.toNat [] = L at *
 have hLok : ∀ p ∈ L, progOK w p = true := fun p hp => (allP hw).1 (by rw [hL]; exact hp)
 have hLlen : L.length ≤ 390625 := by rw [← hL, progsR_len]; exact pow_le8 hw.f (by have := hw.s; omega)
 have u1 : IntKind.u64.wrap (w.deals.length : Int) = (w.deals.length : Int) := wrap_u64 _ (by omega) (by omega)
 have s1 := shl_i64 w.deals.length hD
 have dn : decide ((w.deals.length : Int) < 0) = false := decide_eq_false (by omega)
 have hal := allD_lt hw
 have s2 : IntKind.i64.wrap (((2 ^ w.deals.length : Nat) : Int) - 1) = ((allD w : Nat) : Int) := by
  have h2 := Nat.two_pow_pos w.deals.length
  unfold allD
  generalize 2 ^ w.deals.length = k at *
  rw [wrap_i64 _ (by omega) (by omega)]; omega
 simp only [go_sem, Nat.reduceEqDiff, Nat.reduceAdd, Nat.reduceLT, Nat.reduceLeDiff, reduceIte, WCells, WEta, FCells, FEta, DCells, DEta, cellsIs, solidIs, cellsFs, solidFs, cellsDs, solidDs, Bool.and_self, Is_len, Fs_len, Ds_len, true_and, snW, hotW, snD, hotD, snIs, hotIs, hnil, WB76, WVH_eq hP]
 refine WL_inv (α := Nat × List (List Int) × List Nat) (fun q e mm => e 1 = .ptr 0 0 0 ∧ e 4 = encLs L ∧ e 5 = I64 q.1 ∧ L.drop q.1 = q.2.1 ∧ keptS w q.2.2 q.2.1 = keptS w [] L ∧ q.2.2.length ≤ q.1 ∧ (∀ x ∈ q.2.2, x < 256) ∧ ∃ v toks, e 3 = v ∧ Acc 3 (q.2.2.map fun (n : Nat) => I64 (n : Int)) v toks ∧ mm = ⟨[.live [encW w] 5], toks⟩) (fun q => q.2.1.length) (0, L, []) ?_ ?_
 ·simp only [go_sem, Nat.reduceEqDiff, Nat.reduceAdd, Nat.reduceLT, Nat.reduceLeDiff, reduceIte]
  exact ⟨trivial, trivial, rfl, trivial, trivial, trivial, by simp, _, _, rfl, Acc_nil 3, rfl⟩
 rintro ⟨k, r, out⟩ e m ⟨g1, g4, g5, hdr, hq, hol, ho, v, toks, g3, hA, rfl⟩
 dsimp only at g5 hdr hq hol ho hA
 obtain ⟨c1, c2, c3⟩ := hA.cells
 cases r with
 | nil =>
  have hge := drop_nil hdr
  simp only [go_sem, Nat.reduceEqDiff, Nat.reduceAdd, Nat.reduceLT, Nat.reduceLeDiff, reduceIte, g1, g3, g4, g5, WCells, WEta, FCells, FEta, DCells, DEta, cellsIs, solidIs, cellsFs, solidFs, cellsDs, solidDs, Bool.and_self, Is_len, Fs_len, Ds_len, true_and, snW, hotW, snD, hotD, snIs, hotIs, Ls_len, dec_ge hge, c1, c2, c3, snNs hA]
  rw [← hq]; rfl
 | cons p r =>
  obtain ⟨hk, hd2, hlt⟩ := drop_cons hdr
  have hp := hLok p (List.mem_of_getElem? hk)
  have hbr := broken_ok w hw hds p hp
  rw [broken_eq p w.deals 0 hds] at hbr
  obtain ⟨hb8, hbx⟩ := broken_le8 hw p
  simp only [go_sem, Nat.reduceEqDiff, Nat.reduceAdd, Nat.reduceLT, Nat.reduceLeDiff, reduceIte, g1, g3, g4, g5, WCells, WEta, FCells, FEta, DCells, DEta, cellsIs, solidIs, cellsFs, solidFs, cellsDs, solidDs, Bool.and_self, Is_len, Fs_len, Ds_len, true_and, snW, hotW, snD, hotD, snIs, hotIs, Ls_len, dec_lt hlt, Ls_idx _ hk, u1, s1, dn, s2, WB46, WVH_eq hbr]
  refine WL_inv (α := Nat × List Nat × Nat) (fun q e mm => e 1 = .ptr 0 0 0 ∧ e 3 = v ∧ e 4 = encLs L ∧ e 5 = I64 k ∧ e 6 = I64 q.2.2 ∧ e 7 = encNs (brokenL w p w.deals 0) ∧ e 8 = I64 q.1 ∧ (brokenL w p w.deals 0).drop q.1 = q.2.1 ∧ setB q.2.2 q.2.1 = setP w p ∧ q.2.2 < 256 ∧ mm = ⟨[.live [encW w] 5], toks⟩) (fun q => q.2.1.length) (0, brokenL w p w.deals 0, allD w) ?_ ?_
  ·simp only [go_sem, Nat.reduceEqDiff, Nat.reduceAdd, Nat.reduceLT, Nat.reduceLeDiff, reduceIte, g1, g3, g4, g5]
   exact ⟨trivial, trivial, trivial, trivial, trivial, trivial, rfl, trivial, rfl, hal, trivial⟩
  rintro ⟨j, b, s⟩ e m ⟨g1, g3, g4, g5, g6, g7, g8, hdb, hqs, hs, rfl⟩
  dsimp only at g6 g8 hdb hqs hs
  cases b with
  | cons x b =>
   obtain ⟨hkb, hdb2, hltb⟩ := drop_cons hdb
   have hx8 := hbx x (List.mem_of_getElem? hkb)
   have u2 : IntKind.u64.wrap (x : Int) = (x : Int) := wrap_u64 _ (by omega) (by omega)
   have dx : decide ((x : Int) < 0) = false := decide_eq_false (by omega)
   have s3 := shl_i64 x (by omega)
   have hx256 : 2 ^ x ≤ 256 := Nat.pow_le_pow_right (show 0 < 2 by decide) (show x ≤ 8 by omega)
   have s4 := andNot_i64 s (2 ^ x) (by omega) (by omega)
   simp only [go_sem, Nat.reduceEqDiff, Nat.reduceAdd, Nat.reduceLT, Nat.reduceLeDiff, reduceIte, g1, g3, g4, g5, g6, g7, g8, Ns_len, dec_lt hltb, Ns_idx _ hkb, u2, dx, s3, s4, wrap_n1 j (by omega)]
   refine Nx_of (j + 1, b, andn s (2 ^ x)) (by simp) ?_
   simp only [go_sem, Nat.reduceEqDiff, Nat.reduceAdd, Nat.reduceLT, Nat.reduceLeDiff, reduceIte, g1, g3, g4, g5, g7]
   exact ⟨trivial, trivial, trivial, trivial, trivial, trivial, trivial, hdb2, hqs, Nat.lt_of_le_of_lt (andn_le _ _) hs, trivial⟩
  | nil =>
   have hgeb := drop_nil hdb
   have hsp : s = setP w p := hqs
   have hha := hasN_ok out s (by omega)
   have hvs : ∀ (m : Mem) (q : Nat), snap m (q + 2) v = encNs out := fun m q => snNs hA m q
   have hvh : ∀ q : Nat, hot (q + 2) v = false := fun q => by
    rcases hA with ⟨_, rfl, _⟩ | ⟨_, rfl, _⟩
    ·rfl
    ·exact Ns_hot q out
   rw [keptS_step, ← hsp] at hq
   cases h1 : (out.any fun x => decide (x = s))
   ·rw [h1, if_neg (by decide)] at hq
    simp only [go_sem, Nat.reduceEqDiff, Nat.reduceAdd, Nat.reduceLT, Nat.reduceLeDiff, reduceIte, g1, g3, g4, g5, g6, g7, g8, Ns_len, dec_ge hgeb, hvs, hvh, WB81, WVH_eq hha, true_and, h1, c1, c2, c3]
    refine hA.app (fun e he => by obtain ⟨z, _, rfl⟩ := List.mem_map.1 he; rfl) rfl (by simp only [List.length_map, limit]; omega) fun v' toks' hA' => ?_
    obtain ⟨d1, d2, d3⟩ := hA'.cells
    simp only [go_sem, Nat.reduceEqDiff, Nat.reduceAdd, Nat.reduceLT, Nat.reduceLeDiff, reduceIte, g1, g4, g5, d1, d2, d3, wrap_n1 k (by omega)]
    refine Nx_of (k + 1, r, out ++ [s]) (by simp) ?_
    simp only [go_sem, Nat.reduceEqDiff, Nat.reduceAdd, Nat.reduceLT, Nat.reduceLeDiff, reduceIte, g1, g4]
    exact ⟨trivial, trivial, trivial, hd2, hq, by simp; omega, (fun x hx => by
     rcases List.mem_append.1 hx with hx | hx
     ·exact ho x hx
     ·rw [List.mem_singleton.1 hx]; exact hs), _, _, rfl, by rw [List.map_append]; exact hA', rfl⟩
   ·rw [h1, if_pos rfl] at hq
    simp only [go_sem, Nat.reduceEqDiff, Nat.reduceAdd, Nat.reduceLT, Nat.reduceLeDiff, reduceIte, g1, g3, g4, g5, g6, g7, g8, Ns_len, dec_ge hgeb, hvs, hvh, WB81, WVH_eq hha, true_and, h1, wrap_n1 k (by omega)]
    refine Nx_of (k + 1, r, out) (by simp) ?_
    simp only [go_sem, Nat.reduceEqDiff, Nat.reduceAdd, Nat.reduceLT, Nat.reduceLeDiff, reduceIte, g1, g3, g4]
    exact ⟨trivial, trivial, trivial, hd2, hq, by omega, ho, _, _, rfl, hA, rfl⟩
end Go.Ab.T
end
