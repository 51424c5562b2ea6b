/-
  A part of the proofs over this seat.
  (The texts KwK24 KwK25 KwK26, one behind the other.)
-/
import Derived.Test.YtikfmbopfconkaaP8
set_option linter.unusedSimpArgs false
set_option linter.unusedVariables false
set_option linter.unusedSectionVars false
section
namespace Go.Ab.T
set_option maxRecDepth 8000
set_option maxHeartbeats 4000000
theorem rep1 : run ft 40 (.f 83) [.sl [I64 (-1)] .unk, I64 1] .nil = some (.ref 0 0 1, ⟨[.live [I64 (-1)] 1], []⟩) := by kernel_rfl
theorem rep2 : run ft 40 (.f 83) [.sl [I64 (-1)] .unk, I64 2] .nil = some (.ref 0 0 2, ⟨[.live [I64 (-1), I64 (-1)] 1], []⟩) := by kernel_rfl
theorem rep3 : run ft 40 (.f 83) [.sl [I64 (-1)] .unk, I64 3] .nil = some (.ref 0 0 3, ⟨[.live [I64 (-1), I64 (-1), I64 (-1)] 1], []⟩) := by kernel_rfl
theorem rep4 : run ft 40 (.f 83) [.sl [I64 (-1)] .unk, I64 4] .nil = some (.ref 0 0 4, ⟨[.live [I64 (-1), I64 (-1), I64 (-1), I64 (-1)] 1], []⟩) := by kernel_rfl
theorem rep5 : run ft 40 (.f 83) [.sl [I64 (-1)] .unk, I64 5] .nil = some (.ref 0 0 5, ⟨[.live [I64 (-1), I64 (-1), I64 (-1), I64 (-1), I64 (-1)] 1], []⟩) := by kernel_rfl
theorem rep6 : run ft 40 (.f 83) [.sl [I64 (-1)] .unk, I64 6] .nil = some (.ref 0 0 6, ⟨[.live [I64 (-1), I64 (-1), I64 (-1), I64 (-1), I64 (-1), I64 (-1)] 1], []⟩) := by kernel_rfl
theorem rep7 : run ft 40 (.f 83) [.sl [I64 (-1)] .unk, I64 7] .nil = some (.ref 0 0 7, ⟨[.live [I64 (-1), I64 (-1), I64 (-1), I64 (-1), I64 (-1), I64 (-1), I64 (-1)] 1], []⟩) := by kernel_rfl
theorem rep8 : run ft 40 (.f 83) [.sl [I64 (-1)] .unk, I64 8] .nil = some (.ref 0 0 8, ⟨[.live [I64 (-1), I64 (-1), I64 (-1), I64 (-1), I64 (-1), I64 (-1), I64 (-1), I64 (-1)] 1], []⟩) := by kernel_rfl
theorem Repeat_ok (n : Nat) (h1 : 1 ≤ n) (h8 : n ≤ 8) (K : AV → Mem → Prop) (hK : K (.ref 0 0 n) ⟨[.live ((List.replicate n (-1 : Int)).map I64) 1], []⟩) : WR ft (.f 83) [.sl [I64 (-1)] .unk, I64 n] ⟨[], []⟩ K := by
  match n, h1, h8 with
  | 1, _, _ => exact ⟨40, _, rep1, hK⟩
  | 2, _, _ => exact ⟨40, _, rep2, hK⟩
  | 3, _, _ => exact ⟨40, _, rep3, hK⟩
  | 4, _, _ => exact ⟨40, _, rep4, hK⟩
  | 5, _, _ => exact ⟨40, _, rep5, hK⟩
  | 6, _, _ => exact ⟨40, _, rep6, hK⟩
  | 7, _, _ => exact ⟨40, _, rep7, hK⟩
  | 8, _, _ => exact ⟨40, _, rep8, hK⟩
def setAll (v : Int) : List Int → List Nat → List Int
  | l, [] => l
  | l, s :: r => setAll v (l.set s v) r
theorem setAll_len (v : Int) : ∀ (r : List Nat) (l : List Int), (setAll v l r).length = l.length
  | [], _ => rfl
  | s :: r, l => by rw [setAll, setAll_len v r]; simp
/-- The films of slots, after the first so many films. -/
def filmsK (g : Pg) (n : Nat) : Nat → List Int
  | 0 => List.replicate n (-1)
  | j + 1 => setAll j (filmsK g n j) (numsN (g.sh j))
theorem filmsK_len (g : Pg) (n : Nat) : ∀ j, (filmsK g n j).length = n
  | 0 => by simp [filmsK]
  | j + 1 => by rw [filmsK, setAll_len, filmsK_len g n j]
theorem vidx_sh (g : Pg) (j : Nat) (hj : j < 4) : vidxAt (.agg [U64 g.s0, U64 g.s1, U64 g.s2, U64 g.s3]) (I64 (j : Nat)) 4 1 none = some (U64 (g.sh j)) := by
  match j, hj with
  | 0, _ | 1, _ | 2, _ | 3, _ => rfl
theorem mem_numsN {s x : Nat} : x ∈ numsN s ↔ s.testBit x = true := by
  unfold numsN
  rw [List.mem_filter, List.mem_range]
  refine ⟨fun h => h.2, fun h => ⟨?_, h⟩⟩
  refine Classical.byContradiction fun hn => ?_
  rw [Nat.testBit_lt_two_pow (Nat.lt_of_lt_of_le (lenN_lt s) (Nat.pow_le_pow_right (by decide) (by omega)))] at h
  cases h
theorem films_ok (g : Pg) (n : Nat) (h1 : 1 ≤ n) (h8 : n ≤ 8) (hg : ∀ j, j < 4 → g.sh j < 2 ^ n) : RV ft 60 [encP g, I64 n] (encIs (filmsK g n 4)) := by
  refine RV_of ft60 rfl ?_
  simp only [c60, r60]
  have h256 : ∀ j, j < 4 → g.sh j < 256 := fun j hj => Nat.lt_of_lt_of_le (hg j hj) (Nat.pow_le_pow_right (show 0 < 2 by decide) h8)
  simp only [go_sem, Nat.reduceEqDiff, Nat.reduceAdd, Nat.reduceLT, Nat.reduceLeDiff, reduceIte, PCells, WB83, nil_mk]
  refine Repeat_ok n h1 h8 _ ?_
  have hsh : (List.replicate n (-1 : Int)).map (shift 1 0 9 ∘ I64) = (List.replicate n (-1 : Int)).map I64 := List.map_congr_left fun x _ => rfl
  simp only [go_sem, Nat.reduceEqDiff, Nat.reduceAdd, Nat.reduceLT, Nat.reduceLeDiff, reduceIte, joinMem, shift, shiftB, List.map_map, hsh, PCells, Nat.reduceAdd, true_and]
  refine WL_inv (α := Nat) (fun j e mm => e 5 = .ref 1 0 n ∧ e 14 = .agg [U64 g.s0, U64 g.s1, U64 g.s2, U64 g.s3] ∧ e 15 = I64 (j : Nat) ∧ j ≤ 4 ∧ mm = ⟨[.live [encP g] 7, .live ((filmsK g n j).map I64) 1], []⟩) (fun j => 4 - j) 0 ?_ ?_
  · simp only [go_sem, Nat.reduceEqDiff, Nat.reduceAdd, Nat.reduceLT, Nat.reduceLeDiff, reduceIte]
    exact ⟨trivial, trivial, rfl, trivial, rfl⟩
  rintro j e m ⟨g5, g14, g15, hj, rfl⟩
  rcases Nat.lt_or_ge j 4 with hlt | hge
  · have hd : decide ((j : Int) < 4) = true := decide_eq_true (by omega)
    have hnum := numbers_ok (g.sh j) (h256 j hlt)
    have hn8 := numsN_len (h256 j hlt)
    have hv := vidx_sh g j hlt
    simp only [go_sem, Nat.reduceEqDiff, Nat.reduceAdd, Nat.reduceLT, Nat.reduceLeDiff, reduceIte, g5, g14, g15, hd, hv, WB75, WVH_eq hnum, true_and, Ns_len]
    have hfl := filmsK_len g n j
    refine WL_inv (α := Nat × List Nat × List Int) (fun q e mm => e 5 = .ref 1 0 n ∧ e 6 = I64 (j : Nat) ∧ e 14 = .agg [U64 g.s0, U64 g.s1, U64 g.s2, U64 g.s3] ∧ e 15 = I64 (j : Nat) ∧ e 20 = encNs (numsN (g.sh j)) ∧ e 21 = I64 (numsN (g.sh j)).length ∧ e 22 = I64 q.1 ∧ (numsN (g.sh j)).drop q.1 = q.2.1 ∧ q.2.2.length = n ∧ setAll j q.2.2 q.2.1 = filmsK g n (j + 1) ∧ mm = ⟨[.live [encP g] 7, .live (q.2.2.map I64) 1], []⟩) (fun q => q.2.1.length) (0, numsN (g.sh j), filmsK g n j) ?_ ?_
    · simp only [go_sem, Nat.reduceEqDiff, Nat.reduceAdd, Nat.reduceLT, Nat.reduceLeDiff, reduceIte, g5, g14, g15]
      exact ⟨trivial, trivial, trivial, trivial, trivial, trivial, rfl, trivial, hfl, rfl, trivial⟩
    rintro ⟨k, r, l⟩ e m ⟨g5, g6, g14, g15, g20, g21, g22, hdr, hll, hq, rfl⟩
    dsimp only at g22 hdr hll hq
    cases r with
    | nil =>
      have hge := drop_nil hdr
      simp only [go_sem, Nat.reduceEqDiff, Nat.reduceAdd, Nat.reduceLT, Nat.reduceLeDiff, reduceIte, g5, g6, g14, g15, g20, g21, g22, dec_ge hge, wrap_n1 j (by omega)]
      refine Nx_of (j + 1) (by show 4 - (j + 1) < 4 - j; omega) ?_
      simp only [go_sem, Nat.reduceEqDiff, Nat.reduceAdd, Nat.reduceLT, Nat.reduceLeDiff, reduceIte, g5, g14]
      refine ⟨trivial, trivial, trivial, by omega, ?_⟩
      rw [← hq]; rfl
    | cons x r =>
      obtain ⟨hk, hd2, hlt2⟩ := drop_cons hdr
      have hx := mem_numsN.1 (List.mem_of_getElem? hk)
      have hxn : x < n := by
        refine Classical.byContradiction fun hn => ?_
        rw [Nat.testBit_lt_two_pow (Nat.lt_of_lt_of_le (hg j hlt) (Nat.pow_le_pow_right (by decide) (by omega)))] at hx
        cases hx
      have hxl : l[x]? = some (l.getD x 0) := by rw [List.getD_eq_getElem?_getD, List.getElem?_eq_getElem (by omega)]; rfl
      have hcc : decide (((0 : Int) ≤ (x : Int) ∧ (x : Int) < (n : Int)) ∧ True) = true := decide_eq_true ⟨⟨by omega, by omega⟩, trivial⟩
      have hset : (l.map I64).set x (I64 (j : Nat)) = (l.set x (j : Int)).map I64 := (List.map_set).symm
      simp only [go_sem, Nat.reduceEqDiff, Nat.reduceAdd, Nat.reduceLT, Nat.reduceLeDiff, reduceIte, g5, g6, g14, g15, g20, g21, g22, dec_lt hlt2, Ns_idx _ hk, hcc, Int.toNat_natCast, Nat.zero_add, List.getElem?_map, hxl, Option.map_some, hset, wrap_n1 k (by omega)]
      refine Nx_of (k + 1, r, l.set x (j : Int)) (by simp) ?_
      simp only [go_sem, Nat.reduceEqDiff, Nat.reduceAdd, Nat.reduceLT, Nat.reduceLeDiff, reduceIte, g5, g6, g14, g15, g20, g21]
      exact ⟨trivial, trivial, trivial, trivial, trivial, trivial, trivial, hd2, by simp [hll], by rw [← hq]; rfl, trivial⟩
  · have : j = 4 := by omega
    subst this
    have hfl := filmsK_len g n 4
    simp only [go_sem, Nat.reduceEqDiff, Nat.reduceAdd, Nat.reduceLT, Nat.reduceLeDiff, reduceIte, g5, g14, g15, show decide (((4 : Nat) : Int) < 4) = false from rfl, Nat.zero_add, List.length_map, hfl, Nat.le_refl]
    rw [List.take_of_length_le (by simp [hfl]), List.map_map]; rfl
theorem Best_ok (w : Wk) (hg : (bestO w).2 = 0 → 1 ≤ w.slots.toNat ∧ w.slots.toNat ≤ 8 ∧ WV w ∧ ∀ j, j < 4 → (bestO w).1.sh j < 2 ^ w.slots.toNat) : RV ft 28 [encW w] (.tup [encIs (if (bestO w).2 = 0 then filmsK (bestO w).1 w.slots.toNat 4 else []), I64 (bestO w).2]) := by
  refine RV_of ft28 rfl ?_
  simp only [c28, r28]
  by_cases h0 : (bestO w).2 = 0
  case neg =>
    have n0 : ((bestO w).2 != 0) = true := by rw [bne, beq_eq_false_iff_ne.2 h0]; rfl
    simp only [go_sem, Nat.reduceEqDiff, Nat.reduceAdd, Nat.reduceLT, Nat.reduceLeDiff, reduceIte, WCells, WEta, FCells, FEta, DCells, DEta, cellsIs, solidIs, cellsFs, solidFs, cellsDs, solidDs, Bool.and_self, Is_len, Fs_len, Ds_len, true_and, snW, hotW, snD, hotD, snIs, hotIs, WB49, WVH_eq (best_ok w), PCells, PEta, n0, if_neg h0]
    rfl
  obtain ⟨h1, h8, hw, hgs⟩ := hg h0
  have hsc := slotCount_WV hw
  have hfi := films_ok (bestO w).1 w.slots.toNat h1 h8 hgs
  simp only [go_sem, Nat.reduceEqDiff, Nat.reduceAdd, Nat.reduceLT, Nat.reduceLeDiff, reduceIte, WCells, WEta, FCells, FEta, DCells, DEta, cellsIs, solidIs, cellsFs, solidFs, cellsDs, solidDs, Bool.and_self, Is_len, Fs_len, Ds_len, true_and, snW, hotW, snD, hotD, snIs, hotIs, WB49, WVH_eq (best_ok w), PCells, PEta, h0, show ((0 : Int) != 0) = false from rfl, WB61, WVH_eq hsc, snP, hotP, WB60, WVH_eq hfi, if_true]
theorem setAll_get (v : Int) (i : Nat) : ∀ (r : List Nat) (l : List Int), (setAll v l r)[i]? = (l[i]?).map fun f => if i ∈ r then v else f
  | [], l => by rw [setAll]; cases l[i]? <;> simp
  | s :: r, l => by
    rw [setAll, setAll_get v i r]
    by_cases h : s = i
    · subst h
      by_cases hs : s < l.length
      · rw [List.getElem?_set_self hs, List.getElem?_eq_getElem hs]; simp
      · rw [List.getElem?_eq_none (by simpa using hs), List.getElem?_eq_none (by omega)]; rfl
    · rw [List.getElem?_set_ne h]
      cases l[i]? with
      | none => rfl
      | some f => simp [show ¬ i = s from fun e => h e.symm]
/-- Best's program is the one that it says. -/
theorem films_eq {w : Wk} (hw : WV w) {p : List Int} (hp : progOK w p = true) {g : Pg} (hr : Rel w w.films.length p g) : filmsK g w.slots.toNat 4 = p := by
  have hF := hw.f
  have hl := prog_slots hp
  have hin := prog_in hp
  have hb : ∀ j : Nat, j < 4 → ∀ i : Nat, (g.sh j).testBit i = (p[i]? == some (j : Int)) := fun j hj i => by
    rw [hr.sh j hj]
    split
    · exact shown_bit _ _ _
    · rename_i hjF
      rw [Nat.zero_testBit, opt_beq]
      refine (decide_eq_false fun h => ?_).symm
      have := hin _ (List.mem_of_getElem? h)
      omega
  have key : ∀ j : Nat, j ≤ 4 → ∀ i : Nat, (filmsK g w.slots.toNat j)[i]? = (p[i]?).map fun f => if f < (j : Int) then f else -1 := by
    intro j
    induction j with
    | zero =>
      intro _ i
      rw [filmsK, List.getElem?_replicate]
      cases hi : p[i]? with
      | none => rw [List.getElem?_eq_none_iff] at hi; rw [if_neg (by omega)]; rfl
      | some f =>
        have h1 := (List.getElem?_eq_some_iff.1 hi).1
        have h2 := hin f (List.mem_of_getElem? hi)
        rw [if_pos (by omega)]
        simp only [Option.map_some, Option.some.injEq]
        split <;> omega
    | succ j ih =>
      intro hj i
      rw [filmsK, setAll_get, ih (by omega) i]
      cases hi : p[i]? with
      | none => rfl
      | some f =>
        simp only [Option.map_some, Option.some.injEq, mem_numsN, hb j (by omega) i, hi]
        have h2 := hin f (List.mem_of_getElem? hi)
        have hbb : (some f == some (j : Int)) = decide (f = (j : Int)) := by rw [opt_beq]; simp
        simp only [hbb, decide_eq_true_eq]
        split <;> split <;> (try split) <;> omega
  refine List.ext_getElem? fun i => ?_
  rw [key 4 (Nat.le_refl 4) i]
  cases hi : p[i]? with
  | none => rfl
  | some f =>
    have h2 := hin f (List.mem_of_getElem? hi)
    simp only [Option.map_some, Option.some.injEq]
    rw [if_pos (by omega)]
theorem slots_pos {w : Wk} (hw : WV w) : 1 ≤ w.slots.toNat ∧ w.slots.toNat ≤ 8 := by
  have h1 := hw.d1
  have h2 := hw.r1
  have h3 := hw.h1
  have hs := hw.s
  have h4 : 1 * 1 ≤ w.days * w.rooms.length := Int.mul_le_mul (by omega) (by omega) (by omega) (by omega)
  have h5 : 1 * 1 ≤ w.days * w.rooms.length * w.hours := Int.mul_le_mul (by omega) (by omega) (by omega) (by omega)
  have h6 : 1 ≤ w.slots := h5
  omega
/-- What Best says: a best program, or that there is none. -/
theorem Best_spec {w : Wk} (hc : chkW w = 0) : ((bestO w).2 = 3 ∧ RV ft 28 [encW w] (.tup [encIs [], I64 3]) ∧ ∀ p, progOK w p = true → ¬keepsAll w p) ∨
    ((bestO w).2 = 0 ∧ ∃ p0, RV ft 28 [encW w] (.tup [encIs p0, I64 0]) ∧ progOK w p0 = true ∧ keepsAll w p0 ∧ takeS w p0 = (bestO w).1.tk) := by
  have hw := WV_of (chkW_ok hc).1
  have hsp := slots_pos hw
  rcases best_spec hc with ⟨h1, h2, h3⟩ | ⟨h1, p0, h2, h3, hr, h4, h5⟩
  · have := Best_ok w (fun h => by omega)
    rw [h1, if_neg (by decide)] at this
    exact .inl ⟨h1, this, h3⟩
  · have hl := prog_slots h2
    have := Best_ok w (fun _ => ⟨hsp.1, hsp.2, hw, fun j hj => by
      rw [hr.sh j hj]
      split
      · exact (shown_slots hw (k := 0) (by omega) _).1
      · exact Nat.two_pow_pos _⟩)
    rw [h1, if_pos rfl, films_eq hw h2 hr] at this
    exact .inr ⟨h1, p0, this, h2, h3, h4.symm⟩
end Go.Ab.T
end

section
namespace Go.Ab.T
set_option maxRecDepth 20000
set_option maxHeartbeats 4000000
def exW : Wk := ⟨1, [100, 50], 2, [⟨10, [80, 120]⟩, ⟨8, [40, 90]⟩], [⟨1, 1, 0, 0, 0, 1, 0, 2⟩, ⟨3, 0, 0, 0, 0, 1, 100, 0⟩]⟩
theorem ex_run : callV (run ft 40) 35 [] = some (encW exW) := by kernel_rfl
theorem Example_ok : RV ft 35 [] (encW exW) := ⟨40, ex_run⟩
theorem ex_most : ((bestO exW).1.tk, (bestO exW).2) = (2520, 0) := by kernel_rfl
theorem ex_cost : costO exW 0 = (280, 0) := by kernel_rfl
theorem ex_clash : clashO exW = ([], 3) := by kernel_rfl
theorem ex_chk : chkP exW [0, 1, 0, -1] = 0 := by kernel_rfl
theorem ex_broken : brokenL exW [0, 1, 0, -1] exW.deals 0 = [0, 1] := by kernel_rfl
theorem works_ok : RV ft 12 [] (.bool true) := by
  refine RV_of ft12 rfl ?_
  simp only [c12, r12]
  have h1 := Most_ok exW
  have e1 : (bestO exW).1.tk = 2520 := congrArg Prod.fst ex_most
  have e2 : (bestO exW).2 = 0 := congrArg Prod.snd ex_most
  rw [e1, e2] at h1
  have h2 := Broken_ok exW [0, 1, 0, -1]
  rw [ex_chk, if_pos rfl, ex_broken] at h2
  have h3 := Cost_ok exW 0
  rw [ex_cost] at h3
  have h4 := Clash_ok exW
  rw [ex_clash] at h4
  have hs : RV ft 20 [encNs [0, 1], encIs [0, 1]] (.bool true) := sameInts_ok [0, 1] [0, 1] (by decide)
  have hl4 : ∀ m q, snap m (q + 2) (.sl [.int .i64 0, .int .i64 1, .int .i64 0, .int .i64 (-1)] .tight) = encIs [0, 1, 0, -1] := fun m q => rfl
  have hl2 : ∀ m q, snap m (q + 2) (.sl [.int .i64 0, .int .i64 1] .tight) = encIs [0, 1] := fun m q => rfl
  simp only [go_sem, Nat.reduceEqDiff, Nat.reduceAdd, Nat.reduceLT, Nat.reduceLeDiff, reduceIte, WCells, WEta, FCells, FEta, DCells, DEta, cellsIs, solidIs, cellsFs, solidFs, cellsDs, solidDs, Bool.and_self, Is_len, Fs_len, Ds_len, true_and, snW, hotW, snD, hotD, snIs, hotIs, WB35, WVH_eq Example_ok, WB22, WVH_eq h1, hl4, WB16, WVH_eq h2, WB26, WVH_eq h3, WB24, WVH_eq h4, Ns_sn, Ns_hot, hl2, WB20, WVH_eq hs]
end Go.Ab.T
end

section
namespace Go.Ab.T
set_option maxRecDepth 8000
set_option maxHeartbeats 4000000
abbrev FL (w : Wk) : Prop := w.films.length < 9223372036854775808
/-- A slice of integers that is copied by appending. -/
theorem appI_ok (l : List Int) (hl : l.length ≤ 1000) (bl : List Blk) (tk : List (Nat × Nat)) : ∃ v tk', appendAt ⟨bl, tk⟩ false (.sl [] .tight) (encIs l) 3 1 8 = some (v, ⟨bl, tk'⟩) ∧ ∃ q, v = .sl (l.map I64) q := by
  cases l with
  | nil => exact ⟨_, _, rfl, _, rfl⟩
  | cons x l =>
    simp only [List.length_cons] at hl
    have hc : decide (((0 + (l.length + 1)) * (8 + 1) ≤ limit) ∧ True) = true := decide_eq_true ⟨by simp only [limit]; omega, trivial⟩
    refine ⟨.sl ((x :: l).map I64) (.at tk.length), tk ++ [((x :: l).map I64).length |> fun n => (0 + n, 3)], ?_, _, rfl⟩
    simp only [appendAt, Mem.elems, encIs, hdSz, List.map_cons, cells_int, List.length_cons, List.length_nil, List.length_map, beq_self_eq_true, Bool.true_eq_false, if_false, Bool.false_eq_true, List.nil_append]
    rw [if_pos ⟨by simp only [limit]; omega, trivial⟩]
    simp only [appTk, Nat.add_eq_zero_iff, Nat.succ_ne_self, if_neg, Nat.add_one_ne_zero, and_false, if_false, Option.map_some]
theorem slI_snap (l : List Int) (q : Tk) (m : Mem) (k : Nat) : snap m (k + 2) (.sl (l.map I64) q) = encIs l := by
  show AV.sl ((l.map I64).map (snap m (k + 1))) .unk = _
  rw [List.map_map, snI]; rfl
theorem slI_hot (l : List Int) (q : Tk) (k : Nat) : hot (k + 2) (.sl (l.map I64) q) = false := hotIs k l
theorem slI_cells (l : List Int) (q : Tk) : (AV.sl (l.map I64) q).cells = [.sl (l.map I64) q] := rfl
theorem same_refl (l : List Int) : (l == l) = true := by simp
theorem encNs_eq (l : List Nat) : encNs l = encIs (l.map Int.ofNat) := by unfold encNs encIs; rw [List.map_map]; rfl
theorem sameNs_ok (a b : List Nat) (h : a = b) (hl : a.length < 1000) : RV ft 20 [encNs a, encNs b] (.bool true) := by
  subst h
  rw [encNs_eq]
  have := sameInts_ok (a.map Int.ofNat) (a.map Int.ofNat) (by simp; omega)
  rwa [same_refl] at this
theorem sameIs_ok (a : List Int) (hl : a.length < 1073741824) : RV ft 20 [encIs a, encIs a] (.bool true) := by
  have := sameInts_ok a a hl
  rwa [same_refl] at this
theorem brokenL_len (w : Wk) (p : List Int) : ∀ (l : List Dl) (k : Nat), (brokenL w p l k).length ≤ l.length
  | [], _ => Nat.le_refl 0
  | d :: r, k => by
    have := brokenL_len w p r (k + 1)
    unfold brokenL
    split <;> simp <;> omega
theorem WeekBroken_run (w : Wk) (hfl : FL w) (p : List Int) : RV ft 3 [encW w, encIs p] (.bool true) := by
  refine RV_of ft3 rfl ?_
  simp only [c3, r3]
  cases hh : hugeB w
  case true => simp only [go_sem, Nat.reduceEqDiff, Nat.reduceAdd, Nat.reduceLT, Nat.reduceLeDiff, reduceIte, WCells, WEta, FCells, FEta, DCells, DEta, cellsIs, solidIs, cellsFs, solidFs, cellsDs, solidDs, Bool.and_self, Is_len, Fs_len, Ds_len, true_and, snW, hotW, snD, hotD, snIs, hotIs, WB11, WVH_eq (huge_ok w hfl), hh, WB12, WVH_eq works_ok]
  cases hp40 : decide (40 < p.length)
  case true => simp only [go_sem, Nat.reduceEqDiff, Nat.reduceAdd, Nat.reduceLT, Nat.reduceLeDiff, reduceIte, WCells, WEta, FCells, FEta, DCells, DEta, cellsIs, solidIs, cellsFs, solidFs, cellsDs, solidDs, Bool.and_self, Is_len, Fs_len, Ds_len, true_and, snW, hotW, snD, hotD, snIs, hotIs, WB11, WVH_eq (huge_ok w hfl), hh, dec40, hp40, WB12, WVH_eq works_ok]
  have hpl : p.length ≤ 40 := by have := of_decide_eq_false hp40; omega
  have hsm := Small_of hh
  have hCo := Copy_ok w hsm
  have hB := Broken_ok w p
  have hR := BrokenR_ok w p (by omega)
  have hT := Takings_ok w p
  have hTR := TakingsR_ok w p (by omega)
  have hbe : (if chkP w p = 0 then brokenR w p w.deals 0 else []) = (if chkP w p = 0 then brokenL w p w.deals 0 else []) := by
    split
    · rename_i h0
      exact broken_eq p w.deals 0 (chkW_DV (chkP_ok h0).1)
    · rfl
  have hte : (if chkP w p = 0 then takeR w p else 0) = (if chkP w p = 0 then takeF w p w.films 0 else 0) := by
    split
    · rename_i h0
      have hw := WV_of (chkW_ok (chkP_ok h0).1).1
      rw [takeR_eq hw (chkP_ok h0).2, take_eq hw (chkP_ok h0).2]
    · rfl
  rw [hbe] at hR
  rw [hte] at hTR
  have hlen : (if chkP w p = 0 then brokenL w p w.deals 0 else []).length < 1000 := by
    split
    · rename_i h0
      have hD := (WV_of (chkW_ok (chkP_ok h0).1).1).d
      have := brokenL_len w p w.deals 0
      omega
    · simp
  generalize (if chkP w p = 0 then brokenL w p w.deals 0 else []) = bb at *
  generalize (if chkP w p = 0 then takeF w p w.films 0 else 0) = tt at *
  have hsB := sameNs_ok bb bb rfl hlen
  have hsI := sameIs_ok p (by omega)
  have hsR := sameIs_ok w.rooms (by have := hsm.r; omega)
  have hcc : ((chkW w) != (chkW w)) = false := by simp
  obtain ⟨v, tk', ha, q, rfl⟩ := appI_ok p (by omega) [.live [encW w] 5] []
  have ha' := ha
  simp only [go_sem, Nat.reduceEqDiff, Nat.reduceAdd, Nat.reduceLT, Nat.reduceLeDiff, reduceIte, WCells, WEta, FCells, FEta, DCells, DEta, cellsIs, solidIs, cellsFs, solidFs, cellsDs, solidDs, Bool.and_self, Is_len, Fs_len, Ds_len, true_and, snW, hotW, snD, hotD, snIs, hotIs, WB11, WVH_eq (huge_ok w hfl), hh, dec40, hp40, WFH_eq ft13, WVH_eq hCo, ha', slI_cells, slI_snap, slI_hot, WB14, WVH_eq (Check_ok w), WB15, WVH_eq (CheckR_ok w), hcc, WB16, WVH_eq hB, WB17, WVH_eq hR, WB18, WVH_eq hT, WB19, WVH_eq hTR, WB20, Ns_sn, Ns_hot, WVH_eq hsB, WVH_eq hsI, WVH_eq hsR, WB12, WVH_eq works_ok, same_refl, beq_self_eq_true]
end Go.Ab.T
end
