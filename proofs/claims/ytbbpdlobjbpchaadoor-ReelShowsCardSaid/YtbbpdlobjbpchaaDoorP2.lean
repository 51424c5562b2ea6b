/-
  A part of the proofs over this seat.
  (The texts AxR10 AxR11 AxR12 AxR13 AxR14 AxR15 AxR16, one behind the other.)
-/
import Derived.Test.YtbbpdlobjbpchaaDoorP1
import Derived.Test.YtbbpdlobjbpchaaDoorT3
set_option linter.unusedSimpArgs false
set_option linter.unusedVariables false
set_option linter.unusedSectionVars false
section
namespace Go.Ab.T
set_option maxRecDepth 8000
set_option linter.unusedSimpArgs false
set_option linter.unusedVariables false
structure Ok (r : Rl) (L : Nat) : Prop where
  feet : r.feet = L
  one : 1 ≤ L
  nine : L ≤ 9
  ten : r.marks.length ≤ 10
  marks : ∀ m ∈ r.marks, described m r.feet = true
theorem Ok.part {r : Rl} {L : Nat} (h : Ok r L) : ∀ m ∈ r.marks, okPart m := by
  intro m hm hk
  have h1 := h.marks m hm
  have h9 := h.nine
  rw [h.feet] at h1
  unfold described at h1
  rcases hk with hk | hk
  · simp [hk] at h1; omega
  · simp [hk] at h1; omega
theorem Ok.tear {r : Rl} {L : Nat} (h : Ok r L) : ∀ m ∈ tearsL r, okTear (L - 6) m := by
  intro m hm
  obtain ⟨h1, h2⟩ := List.mem_filter.1 hm
  have h3 := h.marks m h1
  rw [h.feet] at h3
  simp only [isTear] at h2
  unfold described at h3
  rw [h2] at h3
  simp at h3
  unfold okTear; omega
/-- A set without another one's feet. -/
def andn (a b : Nat) : Nat := a &&& (65535 ^^^ b)
theorem andNot16 (a b : Nat) (ha : a < 65536) (hb : b < 65536) : andNotI .u16 (a : Int) (b : Int) = ((andn a b : Nat) : Int) := by
  show IntKind.u16.wrap ((BitVec.ofInt 16 (a : Int) &&& ~~~(BitVec.ofInt 16 (b : Int))).toNat : Int) = _
  have h1 : (BitVec.ofInt 16 (a : Int) &&& ~~~(BitVec.ofInt 16 (b : Int))).toNat = andn a b := by
    rw [← BitVec.allOnes_xor, BitVec.toNat_and, BitVec.toNat_xor, BitVec.ofInt_natCast, BitVec.ofInt_natCast, BitVec.toNat_ofNat, BitVec.toNat_ofNat, Nat.mod_eq_of_lt (by omega), Nat.mod_eq_of_lt (by omega)]
    rfl
  have h2 : andn a b ≤ a := Nat.and_le_left
  rw [h1, wrap_u16 _ (by omega) (by omega)]
theorem andn_lt (a b : Nat) (ha : a < 65536) : andn a b < 65536 := Nat.lt_of_le_of_lt Nat.and_le_left ha
def allN (L : Nat) : Nat := 2 ^ L - 1
theorem allN_lt (L : Nat) (h : L ≤ 16) : allN L < 65536 := by
  have := two_pow_le h; have := Nat.two_pow_pos L; unfold allN; omega
/-- The sets that k dropped tears can leave gone. -/
def goneL (r : Rl) (L k : Nat) : List Nat := setsFrom (takenF (tearsL r) k) (2 ^ (L - 6)) (2 ^ (L - 6))
def truthsL (r : Rl) (L : Nat) : List Nat := ((goneL r L 0).map (andn (allN L))).filter fun t => untrueN (claimsL r) t == 0
theorem setsFrom_len (x : Fam) (W : Nat) : ∀ n, (setsFrom x W n).length ≤ 64 * n
  | 0 => Nat.le_refl 0
  | n + 1 => by
    have := setsFrom_len x W n
    have h2 : (bits64 (x (W - (n + 1)))).length ≤ 64 := by unfold bits64; exact Nat.le_trans (List.length_filter_le _ _) (by simp)
    simp only [setsFrom, List.length_append, List.length_map]; omega
theorem takenF_lt (ts : List Mk) : ∀ i, F64 (takenF ts i) := by
  have : ∀ (ts : List Mk) (fs : Nat → Fam), (∀ i, F64 (fs i)) → ∀ i, F64 (ts.foldl stepM fs i) := by
    intro ts
    induction ts with
    | nil => exact fun _ h => h
    | cons a l ih => exact fun fs h => ih _ (F64.stepM h a)
  exact this ts fs0 fun i j => by unfold fs0; split <;> (show _ < _; omega)
def asg52 : ACode := .region [⟨(some 5), none, .mov (.t 14)⟩]
def body52 : ACode := .block 1 (.seq (.region [⟨(some 15), none, .addr (.t 1) 0⟩,
    ⟨(some 16), none, .load (.t 15) none⟩,
    ⟨(some 17), none, .call 75 [(.t 16)]⟩,
    ⟨(some 18), none, .mov (.t 5)⟩,
    ⟨(some 19), none, .bin .andNot (.t 17) (.t 18)⟩,
    ⟨(some 6), none, .mov (.t 19)⟩])
  (.seq (.region [⟨(some 20), none, .load (.t 3) none⟩,
    ⟨(some 21), none, .mov (.t 6)⟩,
    ⟨(some 22), none, .call 81 [(.t 20), (.t 21)]⟩,
    ⟨(some 23), none, .bin .eql (.t 22) (.c (.int .i64 0))⟩])
  (.cond (.t 23) (.region [⟨(some 24), none, .load (.t 4) none⟩,
    ⟨(some 25), none, .mov (.t 6)⟩,
    ⟨(some 26), none, .lit false 86 1 [(.t 25)]⟩,
    ⟨(some 27), none, .app false (.t 24) (.t 26) 86 1 2⟩,
    ⟨none, none, .store (.t 4) (.t 27) 1⟩])
  (.skip))))
theorem claims_sub (r : Rl) : ∀ m ∈ claimsL r, m ∈ r.marks := fun m h => (List.mem_filter.1 h).1
theorem truths_ok (r : Rl) (L : Nat) (h : Ok r L) : RV ft 52 [encR r] (.sl ((truthsL r L).map U16) .unk) := by
  refine RV_of ft52 rfl ?_
  simp only [c52, r52]
  have h1 := h.one
  have h9 := h.nine
  have h10 := h.ten
  have hW8 : 2 ^ (L - 6) ≤ 8 := two_pow_le (b := 3) (by omega)
  have hlen := setsFrom_len (takenF (tearsL r) 0) (2 ^ (L - 6)) (2 ^ (L - 6))
  have htk := taken_ok r L 0 h.feet h1 h9 (by omega) h10 h.tear
  have htk' : RV ft 79 [.agg [.int .i64 r.feet, .sl (r.marks.map encM) .unk], .int .i64 0] (.sl [.sl (encF (2 ^ (L - 6)) (takenF (tearsL r) 0)) .unk] .unk) := htk
  have hcl := claims_ok r (by omega) h.part
  have hca : ∀ m ∈ claimsL r, okPart m := fun m hm => h.part m (claims_sub r m hm)
  have hcn : (claimsL r).length ≤ 10 := Nat.le_trans (List.length_filter_le _ _) h10
  have hsnc : ∀ (m : Mem) (k : Nat), ((claimsL r).map clo).map (snap m (k + 4)) = (claimsL r).map clo := by
    intro m k
    rw [List.map_map]
    exact List.map_congr_left fun a _ => snap_clo m k a
  have hall : RV ft 75 [.int .i64 r.feet] (U16 (allN L)) := by rw [h.feet]; exact allFeet_ok L h1 (by omega)
  simp only [go_sem, Nat.reduceEqDiff, Nat.reduceAdd, Nat.reduceLT, Nat.reduceLeDiff, reduceIte, and_self, decide_true, decide_false, beq_self_eq_true, sn_ms, WB78, hot_ms, WVH_eq hcl, WB79, WVH_eq htk', true_and, show decide ((0 : Int) ≤ 0) = true from rfl, Int.toNat_zero]
  refine WL_range_of (g := 80) (first := [.sl (encF (2 ^ (L - 6)) (takenF (tearsL r) 0)) .unk]) (cap := []) ?_ ?_
  · rfl
  simp only [go_sem, Nat.reduceEqDiff, Nat.reduceAdd, Nat.reduceLT, Nat.reduceLeDiff, reduceIte, and_self, decide_true, decide_false, beq_self_eq_true]
  have hinit : ∀ env0 : Nat → AV, env0 1 = .ptr 0 0 0 → env0 3 = .ptr 1 0 0 → env0 4 = .ptr 2 0 0 → ∀ K : AV → Mem → Prop,
      (∀ v toks, Acc 86 ((truthsL r L).map U16) v toks → K (.tup []) ⟨[.live [encR r] 2, .live [.sl ((claimsL r).map clo) .unk] 1, .live [v] 1, .lp env0 [14] asg52 body52 true none], toks⟩) →
      WR ft (.f 80) [.sl (encF (2 ^ (L - 6)) (takenF (tearsL r) 0)) .unk, .yld 3] ⟨[.live [encR r] 2, .live [.sl ((claimsL r).map clo) .unk] 1, .live [.sl [] .tight] 1, .lp env0 [14] asg52 body52 true none], []⟩ K := by
    intro env0 v1 v3 v4 K hK
    refine sets_prod (J := fun ys mm => ∃ es : List Nat, ∃ v, Acc 86 (es.map U16) v mm.toks ∧ mm.blks = [.live [encR r] 2, .live [.sl ((claimsL r).map clo) .unk] 1, .live [v] 1, .lp env0 [14] asg52 body52 true none] ∧
      es ++ (ys.map (andn (allN L))).filter (fun t => untrueN (claimsL r) t == 0) = truthsL r L ∧ es.length + ys.length ≤ 512) _ _ hW8 (takenF_lt _ 0) ?_ _ ⟨[], _, Acc_nil _, rfl, rfl, by simp only [List.length_nil]; omega⟩ _ ?_
    · rintro y ys ⟨blks, toks⟩ K' hy ⟨es, v, ha, rfl, he, hn⟩ hk
      dsimp only at ha
      refine WR_yld (ft := ft) rfl rfl ?_
      simp only [go_sem, Nat.reduceEqDiff, Nat.reduceAdd, Nat.reduceLT, Nat.reduceLeDiff, reduceIte, and_self, decide_true, decide_false, beq_self_eq_true, asg52, puts]
      refine YBegin_lp (ft := ft) rfl ?_
      have hal := allN_lt L (by omega)
      have hun := untrue_ok (claimsL r) (andn (allN L) y) (andn_lt _ _ hal) hca (by omega)
      simp only [go_sem, Nat.reduceEqDiff, Nat.reduceAdd, Nat.reduceLT, Nat.reduceLeDiff, reduceIte, and_self, decide_true, decide_false, beq_self_eq_true, body52, v1, v3, v4, WB75, WVH_eq hall, true_and, andNot16 _ y hal (show y < 65536 by omega), hsnc, WB81, WVH_eq hun]
      refine Cs_of (fun hc => ?_) fun hc => ?_
      · simp only [go_sem, Nat.reduceEqDiff, Nat.reduceAdd, Nat.reduceLT, Nat.reduceLeDiff, reduceIte, and_self, decide_true, decide_false, beq_self_eq_true, body52, v1, v3, v4, ha.cells.1]
        refine ha.app (y := U16 (andn (allN L) y)) (sz := 1) (bytes := 2) (fun e he => by obtain ⟨a, _, rfl⟩ := List.mem_map.1 he; rfl) rfl (by simp only [List.length_map, limit, List.length_cons] at hn ⊢; omega) fun v' toks' ha' => ?_
        simp only [go_sem, Nat.reduceEqDiff, Nat.reduceAdd, Nat.reduceLT, Nat.reduceLeDiff, reduceIte, and_self, decide_true, decide_false, beq_self_eq_true, v4, ha.cells.1, ha'.cells.1, ha'.cells.2.1, writeCells_one v v' ha.cells.2.2]
        refine YEnd_lp rfl ?_
        refine hk _ ⟨es ++ [andn (allN L) y], v', by simpa using ha', rfl, ?_, by simp only [List.length_append, List.length_cons, List.length_nil] at hn ⊢; omega⟩
        rw [← he]
        have : (untrueN (claimsL r) (andn (allN L) y) == 0) = true := by simpa using hc
        simp [List.filter_cons, this]
      · simp only [go_sem, Nat.reduceEqDiff, Nat.reduceAdd, Nat.reduceLT, Nat.reduceLeDiff, reduceIte, and_self, decide_true, decide_false, beq_self_eq_true]
        refine YEnd_lp rfl ?_
        refine hk _ ⟨es, v, ha, rfl, ?_, by simp only [List.length_cons] at hn; omega⟩
        rw [← he]
        have : (untrueN (claimsL r) (andn (allN L) y) == 0) = false := by simpa using hc
        simp [List.filter_cons, this]
    · rintro ⟨blks, toks⟩ ⟨es, v, ha, rfl, he, hn⟩
      simp at he
      subst he
      exact hK v toks ha
  refine hinit _ (by simp only [go_sem, Nat.reduceEqDiff, Nat.reduceAdd, Nat.reduceLT, Nat.reduceLeDiff, reduceIte, and_self, decide_true, decide_false, beq_self_eq_true]) (by simp only [go_sem, Nat.reduceEqDiff, Nat.reduceAdd, Nat.reduceLT, Nat.reduceLeDiff, reduceIte, and_self, decide_true, decide_false, beq_self_eq_true]) (by simp only [go_sem, Nat.reduceEqDiff, Nat.reduceAdd, Nat.reduceLT, Nat.reduceLeDiff, reduceIte, and_self, decide_true, decide_false, beq_self_eq_true]) _ fun v toks ha => ?_
  refine RgEnd_lp rfl ?_
  simp only [go_sem, Nat.reduceEqDiff, Nat.reduceAdd, Nat.reduceLT, Nat.reduceLeDiff, reduceIte, and_self, decide_true, decide_false, beq_self_eq_true, ha.cells.1, ha.snap]
  rw [List.map_map]; rfl
end Go.Ab.T
end

section
namespace Go.Ab.T
set_option maxRecDepth 8000
set_option linter.unusedSimpArgs false
set_option linter.unusedVariables false
structure Near (r : Rl) : Prop where
  few : r.marks.length < 1000000
  feet : checkR r = 0 → r.feet ≤ 9
theorem Near.ok {r : Rl} (h : Near r) (h0 : checkR r = 0) : Ok r r.feet.toNat := by
  have h9 := h.feet h0
  unfold checkR at h0
  split at h0
  · cases h0
  · rename_i h1
    split at h0
    · cases h0
    · rename_i h2
      simp only [Bool.or_eq_true, decide_eq_true_eq, not_or, Int.not_lt] at h1
      obtain ⟨⟨h3, h4⟩, h5⟩ := h1
      refine ⟨by omega, by omega, by omega, by omega, fun m hm => ?_⟩
      have := h2
      simp only [List.any_eq_true, not_exists, not_and] at this
      simpa using this m hm
abbrev TL (r : Rl) : List Nat := truthsL r r.feet.toNat
theorem TL_lt {r : Rl} (h : Ok r r.feet.toNat) : ∀ t ∈ TL r, t < 65536 := by
  intro t ht
  obtain ⟨h1, _⟩ := List.mem_filter.1 ht
  obtain ⟨g, _, rfl⟩ := List.mem_map.1 h1
  exact andn_lt _ _ (allN_lt _ (by have := h.nine; omega))
theorem TL_len {r : Rl} (h : Ok r r.feet.toNat) : (TL r).length ≤ 512 := by
  have h9 := h.nine
  refine Nat.le_trans (List.length_filter_le _ _) ?_
  rw [List.length_map]
  have := setsFrom_len (takenF (tearsL r) 0) (2 ^ (r.feet.toNat - 6)) (2 ^ (r.feet.toNat - 6))
  have h8 : 2 ^ (r.feet.toNat - 6) ≤ 8 := two_pow_le (b := 3) (by omega)
  unfold goneL; omega
def manyL (r : Rl) : Int := if checkR r = 0 then (TL r).length else 0
theorem Many_ok (r : Rl) (h : Near r) : RV ft 17 [encR r] (.tup [I64 (manyL r), I64 (checkR r)]) := by
  refine RV_of ft17 rfl ?_
  simp only [c17, r17]
  simp only [go_sem, Nat.reduceEqDiff, Nat.reduceAdd, Nat.reduceLT, Nat.reduceLeDiff, reduceIte, and_self, decide_true, decide_false, beq_self_eq_true, sn_ms, WB21, WVH_eq (Check_ok r h.few), true_and, hot_ms]
  refine Cs_of (fun hc => ?_) fun hc => ?_
  · have h0 : checkR r ≠ 0 := by simpa using hc
    simp only [go_sem, Nat.reduceEqDiff, Nat.reduceAdd, Nat.reduceLT, Nat.reduceLeDiff, reduceIte, and_self, decide_true, decide_false, beq_self_eq_true, manyL, h0]
  · have h0 : checkR r = 0 := by simpa using hc
    simp only [go_sem, Nat.reduceEqDiff, Nat.reduceAdd, Nat.reduceLT, Nat.reduceLeDiff, reduceIte, and_self, decide_true, decide_false, beq_self_eq_true, sn_ms, WB52, WVH_eq (truths_ok r _ (h.ok h0)), true_and, hot_ms, manyL, h0, List.length_map]
def fewestL (r : Rl) (L : Nat) : Nat := (List.range ((tearsL r).length + 1)).foldl (fun least k => (goneL r L k).foldl (fun l g => min l (k + untrueN (claimsL r) (andn (allN L) g))) least) r.marks.length
theorem untrueN_le (l : List Mk) (t : Nat) : untrueN l t ≤ l.length := List.length_filter_le _ _
def asg54 : ACode := .region [⟨(some 7), none, .mov (.t 26)⟩]
def body54 : ACode := .block 3 (.region [⟨(some 27), none, .load (.t 4) none⟩,
    ⟨(some 28), none, .load (.t 5) none⟩,
    ⟨(some 29), none, .load (.t 3) none⟩,
    ⟨(some 30), none, .addr (.t 1) 0⟩,
    ⟨(some 31), none, .load (.t 30) none⟩,
    ⟨(some 32), none, .call 75 [(.t 31)]⟩,
    ⟨(some 33), none, .mov (.t 7)⟩,
    ⟨(some 34), none, .bin .andNot (.t 32) (.t 33)⟩,
    ⟨(some 35), none, .call 81 [(.t 29), (.t 34)]⟩,
    ⟨(some 36), none, .bin .add (.t 28) (.t 35)⟩,
    ⟨(some 37), none, .mnx false (.t 27) (.t 36)⟩,
    ⟨none, none, .store (.t 4) (.t 37) 1⟩])
theorem fewestDropped_ok (r : Rl) (L : Nat) (h : Ok r L) : RV ft 54 [encR r] (I64 (fewestL r L : Nat)) := by
  refine RV_of ft54 rfl ?_
  simp only [c54, r54]
  have h1 := h.one
  have h9 := h.nine
  have h10 := h.ten
  have htl := tears_len r
  have hW8 : 2 ^ (L - 6) ≤ 8 := two_pow_le (b := 3) (by omega)
  have htk := taken_ok r L (tearsL r).length h.feet h1 h9 (by omega) h10 h.tear
  have hfe : fewestL r L = (List.range ((tearsL r).length + 1)).foldl (fun least k => (goneL r L k).foldl (fun l g => min l (k + untrueN (claimsL r) (andn (allN L) g))) least) r.marks.length := rfl
  obtain ⟨N, hN⟩ : ∃ N, N = (tearsL r).length + 1 := ⟨_, rfl⟩
  rw [← hN] at htk hfe
  have hcl := claims_ok r (by omega) h.part
  have hca : ∀ m ∈ claimsL r, okPart m := fun m hm => h.part m (claims_sub r m hm)
  have hcn : (claimsL r).length ≤ 10 := Nat.le_trans (List.length_filter_le _ _) h10
  have hsnc : ∀ (m : Mem) (k : Nat), ((claimsL r).map clo).map (snap m (k + 4)) = (claimsL r).map clo := by
    intro m k
    rw [List.map_map]
    exact List.map_congr_left fun a _ => snap_clo m k a
  have hall : RV ft 75 [.int .i64 r.feet] (U16 (allN L)) := by rw [h.feet]; exact allFeet_ok L h1 (by omega)
  simp only [go_sem, Nat.reduceEqDiff, Nat.reduceAdd, Nat.reduceLT, Nat.reduceLeDiff, reduceIte, and_self, decide_true, decide_false, beq_self_eq_true, sn_ms, WB78, hot_ms, WVH_eq hcl, WB79, WB82, WVH_eq (tears_ok r (by omega)), WVH_eq htk, true_and, List.length_map, List.length_range]
  refine WL_inv (α := Nat × Nat) (fun a e mm => e 1 = .ptr 0 0 0 ∧ e 3 = .ptr 1 0 0 ∧ e 4 = .ptr 2 0 0 ∧ e 17 = .sl ((List.range N).map fun k => .sl (encF (2 ^ (L - 6)) (takenF (tearsL r) k)) .unk) .unk ∧ e 18 = I64 (N : Nat) ∧ e 19 = I64 a.1 ∧ a.1 ≤ N ∧ a.2 ≤ r.marks.length ∧
    mm.blks[0]? = some (.live [encR r] 2) ∧ mm.blks[1]? = some (.live [.sl ((claimsL r).map clo) .unk] 1) ∧ mm.blks[2]? = some (.live [I64 a.2] 1) ∧
    (List.range' a.1 (N - a.1)).foldl (fun least k => (goneL r L k).foldl (fun l g => min l (k + untrueN (claimsL r) (andn (allN L) g))) least) a.2 = fewestL r L) (fun a => N - a.1) (0, r.marks.length) ?_ ?_
  · simp only [go_sem, Nat.reduceEqDiff, Nat.reduceAdd, Nat.reduceLT, Nat.reduceLeDiff, reduceIte, and_self, decide_true, decide_false, beq_self_eq_true]
    refine ⟨trivial, trivial, trivial, trivial, trivial, rfl, by omega, Nat.le_refl _, trivial, trivial, trivial, ?_⟩
    rw [Nat.sub_zero, ← List.range_eq_range', hfe]
  · rintro ⟨k, least⟩ e ⟨blks, toks⟩ ⟨g1, g3, g4, g17, g18, g19, hk, hle, hb0, hb1, hb2, hf⟩
    dsimp only at *
    by_cases hlt : k < N
    · have hw : IntKind.i64.wrap ((k : Int) + 1) = ((k + 1 : Nat) : Int) := by rw [wrap_i64 _ (by omega) (by omega)]; rfl
      have hl0 := (List.getElem?_eq_some_iff.1 hb2).1
      simp only [go_sem, Nat.reduceEqDiff, Nat.reduceAdd, Nat.reduceLT, Nat.reduceLeDiff, reduceIte, and_self, decide_true, decide_false, beq_self_eq_true, g1, g3, g4, g17, g18, g19, dec_lt hlt, dec_nn, Int.toNat_natCast, range_get _ _ k hlt]
      refine WL_range_of (g := 80) (first := [.sl (encF (2 ^ (L - 6)) (takenF (tearsL r) k)) .unk]) (cap := []) ?_ ?_
      · rfl
      simp only [go_sem, Nat.reduceEqDiff, Nat.reduceAdd, Nat.reduceLT, Nat.reduceLeDiff, reduceIte, and_self, decide_true, decide_false, beq_self_eq_true, List.length_append]
      have hinit : ∀ env0 : Nat → AV, env0 1 = .ptr 0 0 0 → env0 3 = .ptr 1 0 0 → env0 4 = .ptr 2 0 0 → env0 5 = .ptr blks.length 0 0 → ∀ K : AV → Mem → Prop,
          (∀ mm : Mem, mm.blks[blks.length + 1]? = some (.lp env0 [26] asg54 body54 true none) → mm.blks[0]? = some (.live [encR r] 2) → mm.blks[1]? = some (.live [.sl ((claimsL r).map clo) .unk] 1) →
            mm.blks[2]? = some (.live [I64 ((goneL r L k).foldl (fun l g => min l (k + untrueN (claimsL r) (andn (allN L) g))) least : Nat)] 1) → K (.tup []) mm) →
          WR ft (.f 80) [.sl (encF (2 ^ (L - 6)) (takenF (tearsL r) k)) .unk, .yld (blks.length + 1)] ⟨blks ++ [.live [I64 k] 1] ++ [.lp env0 [26] asg54 body54 true none], toks⟩ K := by
        intro env0 v1 v3 v4 v5 K hK
        refine sets_prod (J := fun ys mm => ∃ n : Nat, mm.blks[blks.length + 1]? = some (.lp env0 [26] asg54 body54 true none) ∧ mm.blks[blks.length]? = some (.live [I64 k] 1) ∧ mm.blks[0]? = some (.live [encR r] 2) ∧ mm.blks[1]? = some (.live [.sl ((claimsL r).map clo) .unk] 1) ∧ mm.blks[2]? = some (.live [I64 n] 1) ∧ n ≤ 10 ∧
          ys.foldl (fun l g => min l (k + untrueN (claimsL r) (andn (allN L) g))) n = (goneL r L k).foldl (fun l g => min l (k + untrueN (claimsL r) (andn (allN L) g))) least) _ _ hW8 (takenF_lt _ k) ?_ _ ⟨least, ?_, ?_, get_app (get_app hb0), get_app (get_app hb1), get_app (get_app hb2), by omega, rfl⟩ _ ?_
        · rintro y ys ⟨bl, toks⟩ K' hy ⟨n, p1, p2, p3, p4, p5, p6, p7⟩ hk'
          dsimp only at p1 p2 p3 p4 p5
          refine WR_yld (ft := ft) p1 rfl ?_
          simp only [go_sem, Nat.reduceEqDiff, Nat.reduceAdd, Nat.reduceLT, Nat.reduceLeDiff, reduceIte, and_self, decide_true, decide_false, beq_self_eq_true, asg54, puts]
          refine YBegin_lp (ft := ft) p1 ?_
          have hal := allN_lt L (by omega)
          have hun := untrue_ok (claimsL r) (andn (allN L) y) (andn_lt _ _ hal) hca (by omega)
          have hule := untrueN_le (claimsL r) (andn (allN L) y)
          have q1 : (bl.set (blks.length + 1) (.lp env0 [26] asg54 body54 false none))[blks.length + 1]? = some (.lp env0 [26] asg54 body54 false none) := by
            rw [List.getElem?_set_self (List.getElem?_eq_some_iff.1 p1).1]
          have q2 := (List.getElem?_set_ne (l := bl) (i := blks.length + 1) (j := blks.length) (a := Blk.lp env0 [26] asg54 body54 false none) (by omega)).trans p2
          have q3 := (List.getElem?_set_ne (l := bl) (i := blks.length + 1) (j := 0) (a := Blk.lp env0 [26] asg54 body54 false none) (by omega)).trans p3
          have q4 := (List.getElem?_set_ne (l := bl) (i := blks.length + 1) (j := 1) (a := Blk.lp env0 [26] asg54 body54 false none) (by omega)).trans p4
          have q5 := (List.getElem?_set_ne (l := bl) (i := blks.length + 1) (j := 2) (a := Blk.lp env0 [26] asg54 body54 false none) (by omega)).trans p5
          generalize bl.set (blks.length + 1) (.lp env0 [26] asg54 body54 false none) = bl2 at *
          have e1 : IntKind.i64.wrap ((k : Int) + ((untrueN (claimsL r) (andn (allN L) y) : Nat) : Int)) = ((k + untrueN (claimsL r) (andn (allN L) y) : Nat) : Int) := by rw [wrap_i64 _ (by omega) (by omega)]; omega
          simp only [go_sem, Nat.reduceEqDiff, Nat.reduceAdd, Nat.reduceLT, Nat.reduceLeDiff, reduceIte, and_self, decide_true, decide_false, beq_self_eq_true, body54, v1, v3, v4, v5, q2, q3, q4, q5, WB75, WVH_eq hall, true_and, andNot16 _ y hal (show y < 65536 by omega), hsnc, WB81, WVH_eq hun, e1]
          refine YEnd_lp ((List.getElem?_set_ne (by omega)).trans q1) ?_
          rw [show min (n : Int) ((k + untrueN (claimsL r) (andn (allN L) y) : Nat) : Int) = ((min n (k + untrueN (claimsL r) (andn (allN L) y)) : Nat) : Int) by omega]
          refine hk' _ ⟨min n (k + untrueN (claimsL r) (andn (allN L) y)), ?_, ?_, ?_, ?_, ?_, by omega, by rw [← p7]; rfl⟩
          · rw [List.getElem?_set_self]; rw [List.length_set]; exact (List.getElem?_eq_some_iff.1 q1).1
          · rw [List.getElem?_set_ne (by omega), List.getElem?_set_ne (by omega)]; exact q2
          · rw [List.getElem?_set_ne (by omega), List.getElem?_set_ne (by omega)]; exact q3
          · rw [List.getElem?_set_ne (by omega), List.getElem?_set_ne (by omega)]; exact q4
          · rw [List.getElem?_set_ne (by omega), List.getElem?_set_self (List.getElem?_eq_some_iff.1 q5).1]
        · have := get_last (blks ++ [.live [I64 k] 1]) (Blk.lp env0 [26] asg54 body54 true none)
          rwa [show (blks ++ [Blk.live [I64 k] 1]).length = blks.length + 1 by simp] at this
        · exact get_app (get_last _ _)
        · rintro mm ⟨n, p1, p2, p3, p4, p5, p6, p7⟩
          simp only [List.foldl_nil] at p7
          subst p7
          exact hK mm p1 p3 p4 p5
      refine hinit _ (by simp only [go_sem, Nat.reduceEqDiff, Nat.reduceAdd, Nat.reduceLT, Nat.reduceLeDiff, reduceIte, and_self, decide_true, decide_false, beq_self_eq_true, g1]) (by simp only [go_sem, Nat.reduceEqDiff, Nat.reduceAdd, Nat.reduceLT, Nat.reduceLeDiff, reduceIte, and_self, decide_true, decide_false, beq_self_eq_true, g3]) (by simp only [go_sem, Nat.reduceEqDiff, Nat.reduceAdd, Nat.reduceLT, Nat.reduceLeDiff, reduceIte, and_self, decide_true, decide_false, beq_self_eq_true, g4]) (by simp only [go_sem, Nat.reduceEqDiff, Nat.reduceAdd, Nat.reduceLT, Nat.reduceLeDiff, reduceIte, and_self, decide_true, decide_false, beq_self_eq_true]) _ fun mm p1 p3 p4 p5 => ?_
      show RgEnd (blks ++ [_]).length _ _ _
      rw [show ∀ A : Blk, (blks ++ [A]).length = blks.length + 1 by simp]
      refine RgEnd_lp p1 ?_
      obtain ⟨bl, toks'⟩ := mm
      dsimp only at p1 p3 p4 p5
      simp only [go_sem, Nat.reduceEqDiff, Nat.reduceAdd, Nat.reduceLT, Nat.reduceLeDiff, reduceIte, and_self, decide_true, decide_false, beq_self_eq_true, g19, hw]
      have hle2 : ∀ (l : List Nat) (n : Nat), l.foldl (fun l g => min l (k + untrueN (claimsL r) (andn (allN L) g))) n ≤ n := by
        intro l
        induction l with
        | nil => exact fun n => Nat.le_refl n
        | cons a l ih => exact fun n => Nat.le_trans (ih _) (Nat.min_le_left _ _)
      refine Nx_of (k + 1, (goneL r L k).foldl (fun l g => min l (k + untrueN (claimsL r) (andn (allN L) g))) least) (by simp; omega) ?_
      simp only [go_sem, Nat.reduceEqDiff, Nat.reduceAdd, Nat.reduceLT, Nat.reduceLeDiff, reduceIte, and_self, decide_true, decide_false, beq_self_eq_true, g1, g3, g4, g17, g18]
      refine ⟨trivial, trivial, trivial, trivial, trivial, trivial, by omega, Nat.le_trans (hle2 _ _) hle, ?_, ?_, ?_, ?_⟩
      · rw [List.getElem?_set_ne (by omega)]; exact p3
      · rw [List.getElem?_set_ne (by omega)]; exact p4
      · rw [List.getElem?_set_ne (by omega)]; exact p5
      · rw [← hf, show N - k = (N - (k + 1)) + 1 by omega, List.range'_succ]; rfl
    · obtain rfl : k = N := by omega
      simp only [go_sem, Nat.reduceEqDiff, Nat.reduceAdd, Nat.reduceLT, Nat.reduceLeDiff, reduceIte, and_self, decide_true, decide_false, beq_self_eq_true, g4, g18, g19, dec_ge (Nat.le_refl _), hb2]
      simp only [Nat.sub_self, List.range'_zero, List.foldl_nil] at hf
      rw [hf]
end Go.Ab.T
end

section
namespace Go.Ab.T
set_option maxRecDepth 8000
set_option linter.unusedSimpArgs false
set_option linter.unusedVariables false
def fewL (r : Rl) : Int := if checkR r = 0 then (fewestL r r.feet.toNat : Nat) else 0
theorem Fewest_ok (r : Rl) (h : Near r) : RV ft 19 [encR r] (.tup [I64 (fewL r), I64 (checkR r)]) := by
  refine RV_of ft19 rfl ?_
  simp only [c19, r19]
  simp only [go_sem, Nat.reduceEqDiff, Nat.reduceAdd, Nat.reduceLT, Nat.reduceLeDiff, reduceIte, and_self, decide_true, decide_false, beq_self_eq_true, sn_ms, WB21, WVH_eq (Check_ok r h.few), true_and, hot_ms]
  refine Cs_of (fun hc => ?_) fun hc => ?_
  · have h0 : checkR r ≠ 0 := by simpa using hc
    simp only [go_sem, Nat.reduceEqDiff, Nat.reduceAdd, Nat.reduceLT, Nat.reduceLeDiff, reduceIte, and_self, decide_true, decide_false, beq_self_eq_true, fewL, h0]
  · have h0 : checkR r = 0 := by simpa using hc
    simp only [go_sem, Nat.reduceEqDiff, Nat.reduceAdd, Nat.reduceLT, Nat.reduceLeDiff, reduceIte, and_self, decide_true, decide_false, beq_self_eq_true, sn_ms, WB54, WVH_eq (fewestDropped_ok r _ (h.ok h0)), true_and, hot_ms, fewL, h0]
/-- A function value that counts something of a set. -/
def IsC (f : AV) (c : Nat → Nat) : Prop := (∀ t, t < 65536 → ∀ s (K : AV → St → Prop), @WAH ft f [U16 t] s ⟨K⟩ = K (I64 (c t : Nat)) s) ∧ (∀ t, c t ≤ 16) ∧ ∀ m, snap m 9 f = f
/-- The error of what asks for truths. -/
def errT (r : Rl) : Int := if checkR r = 0 then (if TL r = [] then 3 else 0) else checkR r
def lowT (r : Rl) (c : Nat → Nat) : Nat := if checkR r = 0 then (match TL r with | [] => 0 | x :: l => l.foldl (fun a t => min a (c t)) (c x)) else 0
def highT (r : Rl) (c : Nat → Nat) : Nat := if checkR r = 0 then (match TL r with | [] => 0 | x :: l => l.foldl (fun a t => max a (c t)) (c x)) else 0
abbrev encB (r : Rl) (c : Nat → Nat) : AV := .tup [.agg [I64 (lowT r c : Nat), I64 (highT r c : Nat)], I64 (errT r)]
theorem bounds_ok (r : Rl) (h : Near r) (f : AV) (c : Nat → Nat) (hf : IsC f c) : RV ft 61 [encR r, f] (encB r c) := by
  refine RV_of ft61 rfl ?_
  simp only [c61, r61]
  simp only [go_sem, Nat.reduceEqDiff, Nat.reduceAdd, Nat.reduceLT, Nat.reduceLeDiff, reduceIte, and_self, decide_true, decide_false, beq_self_eq_true, sn_ms, WB21, WVH_eq (Check_ok r h.few), true_and, hot_ms]
  refine Cs_of (fun hc => ?_) fun hc => ?_
  · have h0 : checkR r ≠ 0 := by simpa using hc
    simp only [go_sem, Nat.reduceEqDiff, Nat.reduceAdd, Nat.reduceLT, Nat.reduceLeDiff, reduceIte, and_self, decide_true, decide_false, beq_self_eq_true, encB, errT, lowT, highT, h0]
    rfl
  · have h0 : checkR r = 0 := by simpa using hc
    have hok := h.ok h0
    have hlt := TL_lt hok
    have hlen := TL_len hok
    simp only [go_sem, Nat.reduceEqDiff, Nat.reduceAdd, Nat.reduceLT, Nat.reduceLeDiff, reduceIte, and_self, decide_true, decide_false, beq_self_eq_true, sn_ms, WB52, WVH_eq (truths_ok r _ hok), true_and, hot_ms, h0, List.length_map]
    cases hT : TL r with
    | nil =>
      replace hT : truthsL r r.feet.toNat = [] := hT
      simp only [go_sem, Nat.reduceEqDiff, Nat.reduceAdd, Nat.reduceLT, Nat.reduceLeDiff, reduceIte, and_self, decide_true, decide_false, beq_self_eq_true, hT, show (((0 : Nat) : Int) == 0) = true from rfl, encB, errT, lowT, highT, h0]
      rfl
    | cons x l =>
      rw [hT] at hlt hlen
      replace hT : truthsL r r.feet.toNat = x :: l := hT
      simp only [List.length_cons] at hlen
      have e0 : (((l.length + 1 : Nat) : Int) == 0) = false := by simp; omega
      have hx := hlt x (by simp)
      have e1 : decide ((0 : Int) ≤ 1 ∧ 1 ≤ ((l.length + 1 : Nat) : Int) ∧ True) = true := decide_eq_true ⟨by omega, by omega, trivial⟩
      simp only [go_sem, Nat.reduceEqDiff, Nat.reduceAdd, Nat.reduceLT, Nat.reduceLeDiff, reduceIte, and_self, decide_true, decide_false, beq_self_eq_true, hT, e0, show decide ((0 : Int) ≤ 0) = true from rfl, Int.toNat_zero, hf.1 x hx, List.length_map, show decide ((0 : Int) ≤ 1 ∧ (1 : Int) ≤ ((l.length + 1 : Nat) : Int) ∧ ((l.length + 1 : Nat) : Int) ≤ ((l.length + 1 : Nat) : Int)) = true from decide_eq_true ⟨by omega, by omega, by omega⟩, Int.le_refl, e1, show Int.toNat 1 = 1 from rfl, Nat.add_sub_cancel]
      rw [List.take_of_length_le (by simp)]
      refine WL_inv (α := Nat × List Nat) (fun a e mm => e 1 = f ∧ e 9 = .ptr 2 0 0 ∧ e 4 = .ptr 1 0 0 ∧ e 34 = .sl (l.map U16) .unk ∧ e 35 = I64 l.length ∧ e 36 = I64 a.1 ∧ l.drop a.1 = a.2 ∧ a.1 ≤ l.length ∧
        ∃ lo hi : Nat, mm.blks = [.live [encR r] 2, .live [.agg [I64 0, I64 0]] 2, .live [.agg [I64 lo, I64 hi]] 2] ∧ a.2.foldl (fun a t => min a (c t)) lo = l.foldl (fun a t => min a (c t)) (c x) ∧ a.2.foldl (fun a t => max a (c t)) hi = l.foldl (fun a t => max a (c t)) (c x)) (fun a => l.length - a.1) (0, l) ?_ ?_
      · simp only [go_sem, Nat.reduceEqDiff, Nat.reduceAdd, Nat.reduceLT, Nat.reduceLeDiff, reduceIte, and_self, decide_true, decide_false, beq_self_eq_true, List.length_map]
        exact ⟨trivial, trivial, trivial, trivial, trivial, rfl, trivial, by omega, c x, c x, rfl, rfl, rfl⟩
      · rintro ⟨k, l'⟩ e ⟨blks, toks⟩ ⟨g1, g9, g4, g34, g35, g36, hd, hk, lo, hi, rfl, hlo, hhi⟩
        dsimp only at g36 hd hk hlo hhi
        rcases l' with _ | ⟨y, l'⟩
        · have hk' := drop_nil hd
          simp only [go_sem, Nat.reduceEqDiff, Nat.reduceAdd, Nat.reduceLT, Nat.reduceLeDiff, reduceIte, and_self, decide_true, decide_false, beq_self_eq_true, g9, g4, g35, g36, dec_ge hk', encB, errT, lowT, highT, h0, hT]
          simp only [List.foldl_nil] at hlo hhi
          rw [← hlo, ← hhi]
          rfl
        · obtain ⟨hg, hd', hlt2⟩ := drop_cons hd
          have hy := hlt y (List.mem_cons_of_mem _ (List.mem_of_getElem? hg))
          have hw : IntKind.i64.wrap ((k : Int) + 1) = ((k + 1 : Nat) : Int) := by rw [wrap_i64 _ (by omega) (by omega)]; rfl
          simp only [go_sem, Nat.reduceEqDiff, Nat.reduceAdd, Nat.reduceLT, Nat.reduceLeDiff, reduceIte, and_self, decide_true, decide_false, beq_self_eq_true, g1, g9, g4, g34, g35, g36, dec_lt hlt2, dec_nn, Int.toNat_natCast, List.getElem?_map, hg, hf.1 y hy, hw]
          refine Nx_of (k + 1, l') (by simp; omega) ?_
          simp only [go_sem, Nat.reduceEqDiff, Nat.reduceAdd, Nat.reduceLT, Nat.reduceLeDiff, reduceIte, and_self, decide_true, decide_false, beq_self_eq_true, g1, g9, g4, g34, g35]
          refine ⟨trivial, trivial, trivial, trivial, trivial, trivial, hd', by omega, min lo (c y), max hi (c y), ?_, ?_, ?_⟩
          · rw [show min (lo : Int) (c y : Int) = ((min lo (c y) : Nat) : Int) by omega, show max (hi : Int) (c y : Int) = ((max hi (c y) : Nat) : Int) by omega]
          · rw [← hlo]; rfl
          · rw [← hhi]; rfl
theorem popc16_le (t : Nat) : popc 16 t ≤ 16 := popc_le 16 t
theorem splicesL_le (t : Nat) : splicesL t ≤ 16 := by unfold splicesL; have := rowsL_len 16 t; omega
theorem longestL_le (t : Nat) : longestL t ≤ 16 := by
  unfold longestL
  have h := rowsL_le 16 t
  have : ∀ (l : List Nat) (a : Nat), a ≤ 16 → (∀ x ∈ l, x ≤ 16) → l.foldl max a ≤ 16 := by
    intro l
    induction l with
    | nil => exact fun a h _ => h
    | cons x l ih => exact fun a ha hx => ih _ (by have := hx x (by simp); omega) fun y hy => hx y (List.mem_cons_of_mem _ hy)
  exact this _ 0 (by omega) h
theorem isC_count : IsC (.fn 62 [] []) (popc 16) := ⟨fun t ht s K => by simp only [go_sem, Nat.reduceEqDiff, Nat.reduceAdd, Nat.reduceLT, Nat.reduceLeDiff, reduceIte, and_self, decide_true, decide_false, beq_self_eq_true, WB62, WVH_eq (count_ok t ht), true_and], popc16_le, fun m => rfl⟩
theorem isC_splices : IsC (.fn 64 [] []) splicesL := ⟨fun t ht s K => by simp only [go_sem, Nat.reduceEqDiff, Nat.reduceAdd, Nat.reduceLT, Nat.reduceLeDiff, reduceIte, and_self, decide_true, decide_false, beq_self_eq_true, WB64, WVH_eq (splices_ok t ht), true_and], splicesL_le, fun m => rfl⟩
theorem isC_longest : IsC (.fn 67 [] []) longestL := ⟨fun t ht s K => by simp only [go_sem, Nat.reduceEqDiff, Nat.reduceAdd, Nat.reduceLT, Nat.reduceLeDiff, reduceIte, and_self, decide_true, decide_false, beq_self_eq_true, WB67, WVH_eq (longest_ok t ht), true_and], longestL_le, fun m => rfl⟩
theorem Left_ok (r : Rl) (h : Near r) : RV ft 23 [encR r] (encB r (popc 16)) := by
  refine RV_of ft23 rfl ?_
  simp only [c23, r23]
  simp only [go_sem, Nat.reduceEqDiff, Nat.reduceAdd, Nat.reduceLT, Nat.reduceLeDiff, reduceIte, and_self, decide_true, decide_false, beq_self_eq_true, sn_ms, WB61, WVH_eq (bounds_ok r h _ _ isC_count), true_and, hot_ms]
theorem Splices_ok (r : Rl) (h : Near r) : RV ft 25 [encR r] (encB r splicesL) := by
  refine RV_of ft25 rfl ?_
  simp only [c25, r25]
  simp only [go_sem, Nat.reduceEqDiff, Nat.reduceAdd, Nat.reduceLT, Nat.reduceLeDiff, reduceIte, and_self, decide_true, decide_false, beq_self_eq_true, sn_ms, WB61, WVH_eq (bounds_ok r h _ _ isC_splices), true_and, hot_ms]
theorem Longest_ok (r : Rl) (h : Near r) : RV ft 27 [encR r] (encB r longestL) := by
  refine RV_of ft27 rfl ?_
  simp only [c27, r27]
  simp only [go_sem, Nat.reduceEqDiff, Nat.reduceAdd, Nat.reduceLT, Nat.reduceLeDiff, reduceIte, and_self, decide_true, decide_false, beq_self_eq_true, sn_ms, WB61, WVH_eq (bounds_ok r h _ _ isC_longest), true_and, hot_ms]
theorem part_ok (t p : Nat) (ht : t < 65536) (hp : p < 65536) : RV ft 71 [U16 t, .pv (U16 p) 0] (I64 (popc 16 (t &&& p) : Nat)) := by
  refine RV_of ft71 rfl ?_
  simp only [c71, r71]
  have h1 : t &&& p < 65536 := Nat.lt_of_le_of_lt Nat.and_le_left ht
  simp only [go_sem, Nat.reduceEqDiff, Nat.reduceAdd, Nat.reduceLT, Nat.reduceLeDiff, reduceIte, and_self, decide_true, decide_false, beq_self_eq_true, andI_u16 t p ht hp, WB62, WVH_eq (count_ok _ h1), true_and]
def btw (a b : Nat) : Nat := 2 ^ (b + 1) - 2 ^ a
theorem btw_lt (a b : Nat) (h : b < 16) : btw a b < 65536 := by
  have := two_pow_le (a := b + 1) (b := 16) (by omega)
  have := Nat.two_pow_pos a
  unfold btw; omega
theorem isC_part (p : Nat) (hp : p < 65536) : IsC (.fn 71 [] [.pv (U16 p) 0]) fun t => popc 16 (t &&& p) :=
  ⟨fun t ht s K => by simp only [go_sem, Nat.reduceEqDiff, Nat.reduceAdd, Nat.reduceLT, Nat.reduceLeDiff, reduceIte, and_self, decide_true, decide_false, beq_self_eq_true, WB71, WVH_eq (part_ok t p ht hp), true_and], fun t => popc16_le _, fun m => rfl⟩
def okArg (r : Rl) (a b : Int) : Prop := 0 ≤ a ∧ a ≤ b ∧ b < r.feet
instance (r : Rl) (a b : Int) : Decidable (okArg r a b) := by unfold okArg; exact inferInstance
def wholeE (r : Rl) (a b : Int) : Int := if checkR r = 0 then (if okArg r a b then errT r else 1) else checkR r
def wholeLo (r : Rl) (a b : Int) : Nat := if checkR r = 0 ∧ okArg r a b then lowT r (fun t => popc 16 (t &&& btw a.toNat b.toNat)) else 0
def wholeHi (r : Rl) (a b : Int) : Nat := if checkR r = 0 ∧ okArg r a b then highT r (fun t => popc 16 (t &&& btw a.toNat b.toNat)) else 0
theorem Whole_ok (r : Rl) (h : Near r) (a b : Int) : RV ft 31 [encR r, I64 a, I64 b] (.tup [.agg [I64 (wholeLo r a b : Nat), I64 (wholeHi r a b : Nat)], I64 (wholeE r a b)]) := by
  refine RV_of ft31 rfl ?_
  simp only [c31, r31]
  simp only [go_sem, Nat.reduceEqDiff, Nat.reduceAdd, Nat.reduceLT, Nat.reduceLeDiff, reduceIte, and_self, decide_true, decide_false, beq_self_eq_true, sn_ms, WB21, WVH_eq (Check_ok r h.few), true_and, hot_ms]
  refine Cs_of (fun hc => ?_) fun hc => ?_
  · have h0 : checkR r ≠ 0 := by simpa using hc
    simp only [go_sem, Nat.reduceEqDiff, Nat.reduceAdd, Nat.reduceLT, Nat.reduceLeDiff, reduceIte, and_self, decide_true, decide_false, beq_self_eq_true, wholeE, wholeLo, wholeHi, h0, false_and]
    rfl
  · have h0 : checkR r = 0 := by simpa using hc
    have hok := h.ok h0
    have h9 := h.feet h0
    by_cases hab : okArg r a b
    · have hab' := hab
      obtain ⟨p1, p2, p3⟩ := hab
      have hb := between_ok a.toNat b.toNat (by omega) (by omega)
      rw [Int.toNat_of_nonneg p1, Int.toNat_of_nonneg (by omega)] at hb
      have hb' : RV ft 70 [.int .i64 a, .int .i64 b] (U16 (btw a.toNat b.toNat)) := hb
      simp only [go_sem, Nat.reduceEqDiff, Nat.reduceAdd, Nat.reduceLT, Nat.reduceLeDiff, reduceIte, and_self, decide_true, decide_false, beq_self_eq_true, WB69, WVH_eq (ordered_ok _ _ _), decide_eq_true p1, decide_eq_true p2, decide_eq_true p3, true_and, WB70, WVH_eq hb', sn_ms, WB61, WVH_eq (bounds_ok r h _ _ (isC_part (btw a.toNat b.toNat) (btw_lt _ _ (by omega)))), hot_ms, wholeE, wholeLo, wholeHi, h0, hab']
    · have hn : (decide (0 ≤ a) && decide (a ≤ b) && decide (b < r.feet)) = false := by
        unfold okArg at hab; simp; omega
      simp only [go_sem, Nat.reduceEqDiff, Nat.reduceAdd, Nat.reduceLT, Nat.reduceLeDiff, reduceIte, and_self, decide_true, decide_false, beq_self_eq_true, WB69, WVH_eq (ordered_ok _ _ _), hn, true_and, wholeE, wholeLo, wholeHi, h0, hab, and_false]
      rfl
def footE (r : Rl) (n : Int) : Int := wholeE r n n
def footK (r : Rl) (n : Int) : Int := if wholeE r n n = 0 then (if wholeLo r n n = 1 then 1 else if wholeHi r n n = 0 then 2 else 3) else 0
theorem Foot_ok (r : Rl) (h : Near r) (n : Int) : RV ft 29 [encR r, I64 n] (.tup [I64 (footK r n), I64 (footE r n)]) := by
  refine RV_of ft29 rfl ?_
  simp only [c29, r29]
  simp only [go_sem, Nat.reduceEqDiff, Nat.reduceAdd, Nat.reduceLT, Nat.reduceLeDiff, reduceIte, and_self, decide_true, decide_false, beq_self_eq_true, sn_ms, WB31, WVH_eq (Whole_ok r h n n), true_and, hot_ms]
  refine Cs_of (fun hc => ?_) fun hc => ?_
  · have h0 : wholeE r n n ≠ 0 := by simpa using hc
    simp only [go_sem, Nat.reduceEqDiff, Nat.reduceAdd, Nat.reduceLT, Nat.reduceLeDiff, reduceIte, and_self, decide_true, decide_false, beq_self_eq_true, footK, footE, h0]
  · have h0 : wholeE r n n = 0 := by simpa using hc
    simp only [go_sem, Nat.reduceEqDiff, Nat.reduceAdd, Nat.reduceLT, Nat.reduceLeDiff, reduceIte, and_self, decide_true, decide_false, beq_self_eq_true]
    refine Cs_of (fun hd => ?_) fun hd => ?_
    · have h1 : wholeLo r n n = 1 := by have : ((wholeLo r n n : Nat) : Int) = 1 := by simpa using hd
                                        omega
      simp only [go_sem, Nat.reduceEqDiff, Nat.reduceAdd, Nat.reduceLT, Nat.reduceLeDiff, reduceIte, and_self, decide_true, decide_false, beq_self_eq_true, footK, footE, h0, h1]
    · have h1 : wholeLo r n n ≠ 1 := by have : ((wholeLo r n n : Nat) : Int) ≠ 1 := by simpa using hd
                                        omega
      simp only [go_sem, Nat.reduceEqDiff, Nat.reduceAdd, Nat.reduceLT, Nat.reduceLeDiff, reduceIte, and_self, decide_true, decide_false, beq_self_eq_true]
      refine Cs_of (fun he => ?_) fun he => ?_
      · have h2 : wholeHi r n n = 0 := by simpa using he
        simp only [go_sem, Nat.reduceEqDiff, Nat.reduceAdd, Nat.reduceLT, Nat.reduceLeDiff, reduceIte, and_self, decide_true, decide_false, beq_self_eq_true, footK, footE, h0, h1, h2]
      · have h2 : wholeHi r n n ≠ 0 := by simpa using he
        simp only [go_sem, Nat.reduceEqDiff, Nat.reduceAdd, Nat.reduceLT, Nat.reduceLeDiff, reduceIte, and_self, decide_true, decide_false, beq_self_eq_true, footK, footE, h0, h1, h2]
end Go.Ab.T
end

section
namespace Go.Ab.T
set_option maxRecDepth 8000
set_option linter.unusedSimpArgs false
set_option linter.unusedVariables false
def sureL (r : Rl) : Nat := (TL r).foldl (fun a t => a &&& t) (allN r.feet.toNat)
theorem surely_ok (r : Rl) (h : Ok r r.feet.toNat) : RV ft 74 [encR r] (.tup [U16 (sureL r), .bool (decide (0 < (TL r).length))]) := by
  refine RV_of ft74 rfl ?_
  simp only [c74, r74]
  have h1 := h.one
  have h9 := h.nine
  have hlt := TL_lt h
  have hlen := TL_len h
  have hall : RV ft 75 [.int .i64 r.feet] (U16 (allN r.feet.toNat)) := by
    have := allFeet_ok r.feet.toNat h1 (by omega)
    rwa [← h.feet] at this
  simp only [go_sem, Nat.reduceEqDiff, Nat.reduceAdd, Nat.reduceLT, Nat.reduceLeDiff, reduceIte, and_self, decide_true, decide_false, beq_self_eq_true, sn_ms, WB75, WVH_eq hall, WB52, WVH_eq (truths_ok r _ h), true_and, hot_ms, List.length_map]
  refine WL_inv (α := Nat × List Nat) (fun a e mm => e 5 = .sl ((TL r).map U16) .unk ∧ e 13 = .sl ((TL r).map U16) .unk ∧ e 14 = I64 (TL r).length ∧ e 15 = I64 a.1 ∧ (TL r).drop a.1 = a.2 ∧ a.1 ≤ (TL r).length ∧
    ∃ s : Nat, e 4 = U16 s ∧ s < 65536 ∧ a.2.foldl (fun a t => a &&& t) s = sureL r) (fun a => (TL r).length - a.1) (0, TL r) ?_ ?_
  · simp only [go_sem, Nat.reduceEqDiff, Nat.reduceAdd, Nat.reduceLT, Nat.reduceLeDiff, reduceIte, and_self, decide_true, decide_false, beq_self_eq_true]
    exact ⟨trivial, trivial, trivial, rfl, trivial, by omega, _, rfl, allN_lt _ (by omega), rfl⟩
  · rintro ⟨k, l⟩ e mm ⟨g5, g13, g14, g15, hd, hk, s, g4, hs, hf⟩
    dsimp only at g15 hd hk hf
    rcases l with _ | ⟨y, l⟩
    · have hk' := drop_nil hd
      simp only [go_sem, Nat.reduceEqDiff, Nat.reduceAdd, Nat.reduceLT, Nat.reduceLeDiff, reduceIte, and_self, decide_true, decide_false, beq_self_eq_true, g4, g5, g14, g15, dec_ge hk', List.length_map]
      simp only [List.foldl_nil] at hf
      rw [← hf]
      congr 3
      exact congrArg AV.bool (decide_eq_decide.2 (by omega))
    · obtain ⟨hg, hd', hlt2⟩ := drop_cons hd
      have hy := hlt y (List.mem_of_getElem? hg)
      have hw : IntKind.i64.wrap ((k : Int) + 1) = ((k + 1 : Nat) : Int) := by rw [wrap_i64 _ (by omega) (by omega)]; rfl
      simp only [go_sem, Nat.reduceEqDiff, Nat.reduceAdd, Nat.reduceLT, Nat.reduceLeDiff, reduceIte, and_self, decide_true, decide_false, beq_self_eq_true, g4, g5, g13, g14, g15, dec_lt hlt2, dec_nn, Int.toNat_natCast, List.getElem?_map, hg, andI_u16 s y hs hy, hw]
      refine Nx_of (k + 1, l) (by simp; omega) ?_
      simp only [go_sem, Nat.reduceEqDiff, Nat.reduceAdd, Nat.reduceLT, Nat.reduceLeDiff, reduceIte, and_self, decide_true, decide_false, beq_self_eq_true, g5, g13, g14]
      exact ⟨trivial, trivial, trivial, trivial, hd', by omega, _, rfl, Nat.lt_of_le_of_lt Nat.and_le_left hs, by rw [← hf]; rfl⟩
def showE (r : Rl) : Int := errT r
def showL (r : Rl) : List Nat := if checkR r = 0 then (match TL r with | [] => [] | x :: _ => listL x r.feet.toNat) else []
theorem Show_ok (r : Rl) (h : Near r) : RV ft 33 [encR r] (.tup [.sl ((showL r).map fun (i : Nat) => I64 i) .unk, I64 (errT r)]) := by
  refine RV_of ft33 rfl ?_
  simp only [c33, r33]
  simp only [go_sem, Nat.reduceEqDiff, Nat.reduceAdd, Nat.reduceLT, Nat.reduceLeDiff, reduceIte, and_self, decide_true, decide_false, beq_self_eq_true, sn_ms, WB21, WVH_eq (Check_ok r h.few), true_and, hot_ms]
  refine Cs_of (fun hc => ?_) fun hc => ?_
  · have h0 : checkR r ≠ 0 := by simpa using hc
    simp only [go_sem, Nat.reduceEqDiff, Nat.reduceAdd, Nat.reduceLT, Nat.reduceLeDiff, reduceIte, and_self, decide_true, decide_false, beq_self_eq_true, errT, showL, h0]
  · have h0 : checkR r = 0 := by simpa using hc
    have hok := h.ok h0
    have hlt := TL_lt hok
    have hfe := hok.feet
    simp only [go_sem, Nat.reduceEqDiff, Nat.reduceAdd, Nat.reduceLT, Nat.reduceLeDiff, reduceIte, and_self, decide_true, decide_false, beq_self_eq_true, sn_ms, WB52, WVH_eq (truths_ok r _ hok), true_and, hot_ms, h0, List.length_map]
    cases hT : TL r with
    | nil =>
      replace hT : truthsL r r.feet.toNat = [] := hT
      simp only [go_sem, Nat.reduceEqDiff, Nat.reduceAdd, Nat.reduceLT, Nat.reduceLeDiff, reduceIte, and_self, decide_true, decide_false, beq_self_eq_true, hT, show (((0 : Nat) : Int) == 0) = true from rfl, errT, showL, h0]
    | cons x l =>
      rw [hT] at hlt
      replace hT : truthsL r r.feet.toNat = x :: l := hT
      have e0 : (((l.length + 1 : Nat) : Int) == 0) = false := by simp; omega
      have hx := hlt x (by simp)
      have hli := list_ok x r.feet.toNat hx (by have := hok.nine; omega)
      rw [← hfe] at hli
      have hsn : ∀ m k, ((listL x r.feet.toNat).map fun (i : Nat) => I64 i).map (snap m (k + 1)) = (listL x r.feet.toNat).map fun (i : Nat) => I64 i := fun m k => by rw [List.map_map]; rfl
      simp only [go_sem, Nat.reduceEqDiff, Nat.reduceAdd, Nat.reduceLT, Nat.reduceLeDiff, reduceIte, and_self, decide_true, decide_false, beq_self_eq_true, hT, e0, show decide ((0 : Int) ≤ 0) = true from rfl, Int.toNat_zero, WB72, WVH_eq hli, true_and, errT, showL, h0, hsn]
      simp
abbrev encRs (l : List Rl) : AV := .sl (l.map encR) .unk
theorem sn_rs (m : Mem) (k : Nat) (l : List Rl) : (l.map encR).map (snap m (k + 4)) = l.map encR := by
  rw [List.map_map]
  refine List.map_congr_left fun r _ => ?_
  show snap m (k + 3 + 1) (encR r) = encR r
  simp only [go_sem, Nat.reduceEqDiff, Nat.reduceAdd, Nat.reduceLT, Nat.reduceLeDiff, reduceIte, and_self, decide_true, decide_false, beq_self_eq_true, sn_ms]
theorem hot_rs (k : Nat) (l : List Rl) : (l.map encR).any (hot (k + 4)) = false := by
  induction l with
  | nil => rfl
  | cons a l ih =>
    simp only [List.map_cons, List.any_cons, ih, Bool.or_false]
    show hot (k + 3 + 1) (encR a) = false
    simp only [go_sem, Nat.reduceEqDiff, Nat.reduceAdd, Nat.reduceLT, Nat.reduceLeDiff, reduceIte, and_self, decide_true, decide_false, beq_self_eq_true, hot_ms]
theorem other_ok (r q : Rl) (l : List Rl) (hq : l[0]? = some q) : RV ft 88 [encR r, .pv (encRs l) 0] (.bool (r.feet != q.feet)) := by
  refine RV_of ft88 rfl ?_
  simp only [c88, r88]
  simp only [go_sem, Nat.reduceEqDiff, Nat.reduceAdd, Nat.reduceLT, Nat.reduceLeDiff, reduceIte, and_self, decide_true, decide_false, beq_self_eq_true, show decide ((0 : Int) ≤ 0) = true from rfl, Int.toNat_zero, List.getElem?_map, hq]
theorem other_p (q : Rl) (l : List Rl) (hq : l[0]? = some q) : IsP ft encR (.fn 88 [] [.pv (encRs l) 0]) fun r => .bool (r.feet != q.feet) := by
  intro r s K
  simp only [go_sem, Nat.reduceEqDiff, Nat.reduceAdd, Nat.reduceLT, Nat.reduceLeDiff, reduceIte, and_self, decide_true, decide_false, beq_self_eq_true, WB88, sn_ms, sn_rs, WVH_eq (other_ok r q l hq), true_and]
theorem indexR_ok (l : List Rl) (f : AV) (p : Rl → Bool) (hf : IsP ft encR f fun m => .bool (p m)) (hl : l.length < 1000000) : RV ft 97 [encRs l, f] (I64 (idxFrom p l 0)) := by
  refine RV_of ft97 rfl ?_
  simp only [c97, r97]
  simp only [go_sem, Nat.reduceEqDiff, Nat.reduceAdd, Nat.reduceLT, Nat.reduceLeDiff, reduceIte, and_self, decide_true, decide_false, beq_self_eq_true, List.length_map]
  refine WL_inv (α := Nat × List Rl) (fun a e m => m = ⟨[], []⟩ ∧ e 0 = encRs l ∧ e 1 = f ∧ e 7 = I64 l.length ∧ e 8 = I64 a.1 ∧ l.drop a.1 = a.2 ∧ a.1 ≤ l.length ∧ idxFrom p a.2 a.1 = idxFrom p l 0) (fun a => l.length - a.1) (0, l) ?_ ?_
  · simp only [go_sem, Nat.reduceEqDiff, Nat.reduceAdd, Nat.reduceLT, Nat.reduceLeDiff, reduceIte, and_self, decide_true, decide_false, beq_self_eq_true]
    exact ⟨trivial, trivial, trivial, trivial, rfl, trivial, by omega, trivial⟩
  · rintro ⟨k, r⟩ e m ⟨rfl, h0, h1, h7, h8, hd, hk, hx⟩
    dsimp only at h8 hd hk hx
    rcases r with _ | ⟨x, r⟩
    · have hk' := drop_nil hd
      simp only [go_sem, Nat.reduceEqDiff, Nat.reduceAdd, Nat.reduceLT, Nat.reduceLeDiff, reduceIte, and_self, decide_true, decide_false, beq_self_eq_true, h7, h8, dec_ge hk']
      rw [← hx]; rfl
    · obtain ⟨hg, hd', hlt⟩ := drop_cons hd
      simp only [go_sem, Nat.reduceEqDiff, Nat.reduceAdd, Nat.reduceLT, Nat.reduceLeDiff, reduceIte, and_self, decide_true, decide_false, beq_self_eq_true, h0, h1, h7, h8, dec_lt hlt, dec_nn, Int.toNat_natCast, List.getElem?_map, hg, hf x]
      refine Cs_of (fun hp => ?_) fun hp => ?_
      · simp only [go_sem, Nat.reduceEqDiff, Nat.reduceAdd, Nat.reduceLT, Nat.reduceLeDiff, reduceIte, and_self, decide_true, decide_false, beq_self_eq_true]
        simp only [idxFrom, hp, if_true] at hx
        rw [← hx]
      · simp only [go_sem, Nat.reduceEqDiff, Nat.reduceAdd, Nat.reduceLT, Nat.reduceLeDiff, reduceIte, and_self, decide_true, decide_false, beq_self_eq_true, h8]
        refine Nx_of (k + 1, r) (by simp; omega) ?_
        simp only [go_sem, Nat.reduceEqDiff, Nat.reduceAdd, Nat.reduceLT, Nat.reduceLeDiff, reduceIte, and_self, decide_true, decide_false, beq_self_eq_true, h0, h1, h7]
        simp only [idxFrom, hp] at hx
        refine ⟨trivial, trivial, trivial, trivial, ?_, hd', by omega, by simpa using hx⟩
        rw [wrap_i64 _ (by omega) (by omega)]; norm_cast
theorem containsR_ok (l : List Rl) (f : AV) (p : Rl → Bool) (hf : IsP ft encR f fun m => .bool (p m)) (hs : ∀ m, snap m 9 f = f) (hl : l.length < 1000000) : RV ft 89 [encRs l, f] (.bool (l.any p)) := by
  refine RV_of ft89 rfl ?_
  simp only [c89, r89]
  simp only [go_sem, Nat.reduceEqDiff, Nat.reduceAdd, Nat.reduceLT, Nat.reduceLeDiff, reduceIte, and_self, decide_true, decide_false, beq_self_eq_true, WB97, sn_rs, hs, WVH_eq (indexR_ok l f p hf hl), idxFrom_any, true_and]
/-- The reels can be prints that are put together. -/
def sameL (l : List Rl) : Bool := match l[0]? with
  | none => false
  | some q => decide (l.length ≤ 4) && !l.any fun r => r.feet != q.feet
theorem samePrints_ok (l : List Rl) (hl : l.length < 1000000) : RV ft 73 [encRs l] (.bool (sameL l)) := by
  refine RV_of ft73 rfl ?_
  simp only [c73, r73]
  cases hq : l[0]? with
  | none =>
    have h0 : l.length = 0 := by simpa using hq
    simp only [go_sem, Nat.reduceEqDiff, Nat.reduceAdd, Nat.reduceLT, Nat.reduceLeDiff, reduceIte, and_self, decide_true, decide_false, beq_self_eq_true, List.length_map, decide_eq_true (show ((l.length : Nat) : Int) < 1 by omega), sameL, hq]
  | some q =>
    have h0 := (List.getElem?_eq_some_iff.1 hq).1
    have e1 : decide ((l.length : Int) < 1) = false := decide_eq_false (by omega)
    have hcr := containsR_ok l _ _ (other_p q l hq) (fun m => by simp only [go_sem, Nat.reduceEqDiff, Nat.reduceAdd, Nat.reduceLT, Nat.reduceLeDiff, reduceIte, and_self, decide_true, decide_false, beq_self_eq_true, sn_rs]) hl
    simp only [go_sem, Nat.reduceEqDiff, Nat.reduceAdd, Nat.reduceLT, Nat.reduceLeDiff, reduceIte, and_self, decide_true, decide_false, beq_self_eq_true, List.length_map, e1, sn_rs]
    refine Cs_dec (fun hc => ?_) fun hc => ?_
    · simp only [go_sem, Nat.reduceEqDiff, Nat.reduceAdd, Nat.reduceLT, Nat.reduceLeDiff, reduceIte, and_self, decide_true, decide_false, beq_self_eq_true, sameL, hq, show ¬ (l.length ≤ 4) by omega, Bool.false_and]
    · have hle : l.length ≤ 4 := by omega
      simp only [go_sem, Nat.reduceEqDiff, Nat.reduceAdd, Nat.reduceLT, Nat.reduceLeDiff, reduceIte, and_self, decide_true, decide_false, beq_self_eq_true, sn_rs, WB89, WVH_eq hcr, true_and, hot_rs, sameL, hq, hle]
def haveL (l : List Rl) : Nat := l.foldl (fun h r => h ||| sureL r) 0
/-- The first error of a list of reels. -/
def firstE (l : List Rl) : Int := match l with
  | [] => 0
  | r :: l => if checkR r = 0 then firstE l else checkR r
def noneL (l : List Rl) : Bool := l.any fun r => (TL r).length == 0
def feet0 (l : List Rl) : Nat := match l[0]? with | some q => q.feet.toNat | none => 0
def lacksE (l : List Rl) : Int := if firstE l = 0 then (if sameL l then (if noneL l then 3 else 0) else 1) else firstE l
def lacksL (l : List Rl) : List Nat := if lacksE l = 0 then listL (andn (allN (feet0 l)) (haveL l)) (feet0 l) else []
theorem firstE_all : ∀ {l : List Rl}, firstE l = 0 → ∀ r ∈ l, checkR r = 0
  | [], _, r, h => by cases h
  | a :: l, he, r, h => by
    unfold firstE at he
    split at he
    · rename_i h1
      rcases List.mem_cons.1 h with rfl | h
      · exact h1
      · exact firstE_all he r h
    · contradiction
theorem Lacks_ok (l : List Rl) (hl : l.length < 1000000) (hn : ∀ r ∈ l, Near r) : RV ft 37 [encRs l] (.tup [.sl ((lacksL l).map fun (i : Nat) => I64 i) .unk, I64 (lacksE l)]) := by
  refine RV_of ft37 rfl ?_
  simp only [c37, r37]
  simp only [go_sem, Nat.reduceEqDiff, Nat.reduceAdd, Nat.reduceLT, Nat.reduceLeDiff, reduceIte, and_self, decide_true, decide_false, beq_self_eq_true, List.length_map]
  refine WL_inv (α := Nat × List Rl) (fun a e m => e 0 = encRs l ∧ e 13 = encRs l ∧ e 14 = I64 l.length ∧ e 15 = I64 a.1 ∧ l.drop a.1 = a.2 ∧ a.1 ≤ l.length ∧ m.toks = [] ∧ firstE a.2 = firstE l) (fun a => l.length - a.1) (0, l) ?_ ?_
  · simp only [go_sem, Nat.reduceEqDiff, Nat.reduceAdd, Nat.reduceLT, Nat.reduceLeDiff, reduceIte, and_self, decide_true, decide_false, beq_self_eq_true]
    exact ⟨trivial, trivial, trivial, rfl, trivial, by omega, trivial⟩
  · rintro ⟨k, r⟩ e ⟨blks, toks⟩ ⟨g0, g13, g14, g15, hd, hk, htk, he⟩
    dsimp only at g15 hd hk htk he
    subst htk
    rcases r with _ | ⟨x, r⟩
    · have hk' := drop_nil hd
      have he0 : firstE l = 0 := he.symm
      simp only [go_sem, Nat.reduceEqDiff, Nat.reduceAdd, Nat.reduceLT, Nat.reduceLeDiff, reduceIte, and_self, decide_true, decide_false, beq_self_eq_true, g0, g14, g15, dec_ge hk', sn_rs, WB73, WVH_eq (samePrints_ok l hl), true_and, hot_rs]
      refine Cs_of (fun hs => ?_) fun hs => ?_
      · have hs' : sameL l = true := by simpa using hs
        obtain ⟨q, hq⟩ : ∃ q, l[0]? = some q := by
          unfold sameL at hs'
          cases hq : l[0]? with
          | none => rw [hq] at hs'; cases hs'
          | some q => exact ⟨q, rfl⟩
        have hall : ∀ r ∈ l, Ok r r.feet.toNat := fun r hr => (hn r hr).ok (firstE_all he0 r hr)
        have hokq := hall q (List.mem_of_getElem? hq)
        simp only [go_sem, Nat.reduceEqDiff, Nat.reduceAdd, Nat.reduceLT, Nat.reduceLeDiff, reduceIte, and_self, decide_true, decide_false, beq_self_eq_true, g0, List.length_map]
        refine WL_inv (α := Nat × List Rl) (fun a e m => e 0 = encRs l ∧ e 28 = encRs l ∧ e 29 = I64 l.length ∧ e 30 = I64 a.1 ∧ l.drop a.1 = a.2 ∧ a.1 ≤ l.length ∧ noneL a.2 = noneL l ∧ ∃ h : Nat, e 7 = U16 h ∧ h < 65536 ∧ a.2.foldl (fun h r => h ||| sureL r) h = haveL l) (fun a => l.length - a.1) (0, l) ?_ ?_
        · simp only [go_sem, Nat.reduceEqDiff, Nat.reduceAdd, Nat.reduceLT, Nat.reduceLeDiff, reduceIte, and_self, decide_true, decide_false, beq_self_eq_true, g0]
          exact ⟨trivial, trivial, trivial, rfl, trivial, by omega, trivial, 0, rfl, by decide, rfl⟩
        · rintro ⟨k, r⟩ e ⟨blks, toks⟩ ⟨g0, g28, g29, g30, hd, hk, hno, h, g7, hh, hf⟩
          dsimp only at g30 hd hk hno hf
          rcases r with _ | ⟨x, r⟩
          · have hk' := drop_nil hd
            have hno' : noneL l = false := hno.symm
            simp only [List.foldl_nil] at hf
            have hf0 : feet0 l = q.feet.toNat := by simp [feet0, hq]
            have hall75 : RV ft 75 [.int .i64 q.feet] (U16 (allN q.feet.toNat)) := by
              have := allFeet_ok q.feet.toNat hokq.one (by have := hokq.nine; omega)
              rwa [← hokq.feet] at this
            have hal := allN_lt q.feet.toNat (by have := hokq.nine; omega)
            have hli := list_ok (andn (allN q.feet.toNat) h) q.feet.toNat (andn_lt _ _ hal) (by have := hokq.nine; omega)
            rw [← hokq.feet] at hli
            have hsn : ∀ m k, ((listL (andn (allN q.feet.toNat) h) q.feet.toNat).map fun (i : Nat) => I64 i).map (snap m (k + 1)) = (listL (andn (allN q.feet.toNat) h) q.feet.toNat).map fun (i : Nat) => I64 i := fun m k => by rw [List.map_map]; rfl
            simp only [go_sem, Nat.reduceEqDiff, Nat.reduceAdd, Nat.reduceLT, Nat.reduceLeDiff, reduceIte, and_self, decide_true, decide_false, beq_self_eq_true, g0, g7, g28, g29, g30, dec_ge hk', show decide ((0 : Int) ≤ 0) = true from rfl, Int.toNat_zero, List.getElem?_map, hq, WB75, WVH_eq hall75, true_and, andNot16 _ h hal hh, WB72, WVH_eq hli, hsn, lacksL, lacksE, he0, hs', hno', Bool.false_eq_true, hf0, ← hf]
          · obtain ⟨hg, hd', hlt⟩ := drop_cons hd
            have hokx := hall x (List.mem_of_getElem? hg)
            have hsu : sureL x < 65536 := by
              have hal := allN_lt x.feet.toNat (by have := hokx.nine; omega)
              have : ∀ (l : List Nat) (a : Nat), a < 65536 → l.foldl (fun a t => a &&& t) a < 65536 := by
                intro l
                induction l with
                | nil => exact fun a h => h
                | cons t l ih => exact fun a h => ih _ (Nat.lt_of_le_of_lt Nat.and_le_left h)
              exact this _ _ hal
            have hw : IntKind.i64.wrap ((k : Int) + 1) = ((k + 1 : Nat) : Int) := by rw [wrap_i64 _ (by omega) (by omega)]; rfl
            simp only [go_sem, Nat.reduceEqDiff, Nat.reduceAdd, Nat.reduceLT, Nat.reduceLeDiff, reduceIte, and_self, decide_true, decide_false, beq_self_eq_true, g0, g28, g29, g30, dec_lt hlt, dec_nn, Int.toNat_natCast, List.getElem?_map, hg, sn_ms, WB74, WVH_eq (surely_ok x hokx), true_and, hot_ms]
            refine Cs_dec (fun hc => ?_) fun hc => ?_
            · simp only [go_sem, Nat.reduceEqDiff, Nat.reduceAdd, Nat.reduceLT, Nat.reduceLeDiff, reduceIte, and_self, decide_true, decide_false, beq_self_eq_true, g7, g30, orI_u16 h (sureL x) hh hsu, hw]
              refine Nx_of (k + 1, r) (by simp; omega) ?_
              simp only [go_sem, Nat.reduceEqDiff, Nat.reduceAdd, Nat.reduceLT, Nat.reduceLeDiff, reduceIte, and_self, decide_true, decide_false, beq_self_eq_true, g0, g28, g29]
              refine ⟨trivial, trivial, trivial, trivial, hd', by omega, ?_, _, rfl, ?_, by rw [← hf]; rfl⟩
              · rw [← hno]
                have : ((TL x).length == 0) = false := by simp; intro h; rw [h] at hc; simp at hc
                simp [noneL, List.any_cons, this]
              · have := or_lt h (sureL x) 16 (by simpa using hh) (by simpa using hsu); simpa using this
            · have hno' : noneL l = true := by
                rw [← hno]
                have : ((TL x).length == 0) = true := by simp; simpa using hc
                simp [noneL, List.any_cons, this]
              simp only [go_sem, Nat.reduceEqDiff, Nat.reduceAdd, Nat.reduceLT, Nat.reduceLeDiff, reduceIte, and_self, decide_true, decide_false, beq_self_eq_true, lacksL, lacksE, he0, hs', hno', show ¬ ((3 : Int) = 0) by decide]
      · have hs' : sameL l = false := by simpa using hs
        simp only [go_sem, Nat.reduceEqDiff, Nat.reduceAdd, Nat.reduceLT, Nat.reduceLeDiff, reduceIte, and_self, decide_true, decide_false, beq_self_eq_true, lacksL, lacksE, he0, hs', Bool.false_eq_true, show ¬ ((1 : Int) = 0) by decide]
    · obtain ⟨hg, hd', hlt⟩ := drop_cons hd
      have hnx := hn x (List.mem_of_getElem? hg)
      have hw : IntKind.i64.wrap ((k : Int) + 1) = ((k + 1 : Nat) : Int) := by rw [wrap_i64 _ (by omega) (by omega)]; rfl
      simp only [go_sem, Nat.reduceEqDiff, Nat.reduceAdd, Nat.reduceLT, Nat.reduceLeDiff, reduceIte, and_self, decide_true, decide_false, beq_self_eq_true, g0, g13, g14, g15, dec_lt hlt, dec_nn, Int.toNat_natCast, List.getElem?_map, hg, sn_ms, WB21, WVH_eq (Check_ok x hnx.few), true_and, hot_ms]
      refine Cs_of (fun hc => ?_) fun hc => ?_
      · have hc' : checkR x ≠ 0 := by simpa using hc
        have he' : firstE l = checkR x := by rw [← he]; simp [firstE, hc']
        simp only [go_sem, Nat.reduceEqDiff, Nat.reduceAdd, Nat.reduceLT, Nat.reduceLeDiff, reduceIte, and_self, decide_true, decide_false, beq_self_eq_true, lacksL, lacksE, he', hc']
      · have hc' : checkR x = 0 := by simpa using hc
        simp only [go_sem, Nat.reduceEqDiff, Nat.reduceAdd, Nat.reduceLT, Nat.reduceLeDiff, reduceIte, and_self, decide_true, decide_false, beq_self_eq_true, g15, hw]
        refine Nx_of (k + 1, r) (by simp; omega) ?_
        simp only [go_sem, Nat.reduceEqDiff, Nat.reduceAdd, Nat.reduceLT, Nat.reduceLeDiff, reduceIte, and_self, decide_true, decide_false, beq_self_eq_true, g0, g13, g14]
        exact ⟨trivial, trivial, trivial, trivial, hd', by omega, trivial, by rw [← he]; simp [firstE, hc']⟩
end Go.Ab.T
end

section
namespace Go.Ab.T
set_option maxRecDepth 8000
set_option linter.unusedSimpArgs false
set_option linter.unusedVariables false
theorem within_ok (a b c : Int) : RV ft 59 [I64 a, I64 b, I64 c] (.bool (decide (b ≤ a) && decide (a ≤ c))) := by
  refine RV_of ft59 rfl ?_
  simp only [c59, r59]
  repeat' (first | simp only [go_sem, Nat.reduceEqDiff, Nat.reduceAdd, Nat.reduceLT, Nat.reduceLeDiff, reduceIte, and_self, decide_true, decide_false, beq_self_eq_true, Bool.not_true, Bool.not_false, decide_true, decide_false, true_and, and_true, *] | (refine Cs_of (fun _ => ?_) (fun _ => ?_)))
theorem isMark_true_true (f : Int) (m : Mk) (hcnt : (decide (0 ≤ m.lo) && decide (m.lo ≤ m.hi)) = true) (hsp : (decide (0 ≤ m.fr) && decide (m.fr ≤ m.to)) = true) : RV ft 60 [I64 f, encM m] (.bool (described m f)) := by
  refine RV_of ft60 rfl ?_
  simp only [c60, r60]
  simp only [go_sem, Nat.reduceEqDiff, Nat.reduceAdd, Nat.reduceLT, Nat.reduceLeDiff, reduceIte, and_self, decide_true, decide_false, beq_self_eq_true, WB59, WVH_eq (within_ok _ _ _), hcnt, hsp, true_and]
  cases k1 : (m.kind == 1)
  · cases k2 : (m.kind == 2)
    · cases k3 : (m.kind == 3)
      · cases k4 : (m.kind == 4)
        · cases k5 : (m.kind == 5)
          · repeat' (first | simp only [go_sem, Nat.reduceEqDiff, Nat.reduceAdd, Nat.reduceLT, Nat.reduceLeDiff, reduceIte, and_self, decide_true, decide_false, beq_self_eq_true, Bool.not_true, Bool.not_false, decide_true, decide_false, true_and, and_true, k1, k2, k3, k4, k5, *] | (refine Cs_of (fun _ => ?_) (fun _ => ?_)))
            all_goals first | contradiction | simp only [described, Bool.false_and, Bool.and_false, Bool.true_and, Bool.and_true, Bool.or_self, Bool.or_false, Bool.false_or, Bool.or_true, Bool.true_or, Bool.false_eq_true, if_false, if_true, Bool.and_self, *]
          · repeat' (first | simp only [go_sem, Nat.reduceEqDiff, Nat.reduceAdd, Nat.reduceLT, Nat.reduceLeDiff, reduceIte, and_self, decide_true, decide_false, beq_self_eq_true, Bool.not_true, Bool.not_false, decide_true, decide_false, true_and, and_true, k1, k2, k3, k4, k5, *] | (refine Cs_of (fun _ => ?_) (fun _ => ?_)))
            all_goals first | contradiction | simp only [described, Bool.false_and, Bool.and_false, Bool.true_and, Bool.and_true, Bool.or_self, Bool.or_false, Bool.false_or, Bool.or_true, Bool.true_or, Bool.false_eq_true, if_false, if_true, Bool.and_self, *]
        · repeat' (first | simp only [go_sem, Nat.reduceEqDiff, Nat.reduceAdd, Nat.reduceLT, Nat.reduceLeDiff, reduceIte, and_self, decide_true, decide_false, beq_self_eq_true, Bool.not_true, Bool.not_false, decide_true, decide_false, true_and, and_true, k1, k2, k3, k4, *] | (refine Cs_of (fun _ => ?_) (fun _ => ?_)))
          all_goals first | contradiction | simp only [described, Bool.false_and, Bool.and_false, Bool.true_and, Bool.and_true, Bool.or_self, Bool.or_false, Bool.false_or, Bool.or_true, Bool.true_or, Bool.false_eq_true, if_false, if_true, Bool.and_self, *]
      · repeat' (first | simp only [go_sem, Nat.reduceEqDiff, Nat.reduceAdd, Nat.reduceLT, Nat.reduceLeDiff, reduceIte, and_self, decide_true, decide_false, beq_self_eq_true, Bool.not_true, Bool.not_false, decide_true, decide_false, true_and, and_true, k1, k2, k3, *] | (refine Cs_of (fun _ => ?_) (fun _ => ?_)))
        all_goals first | contradiction | simp only [described, Bool.false_and, Bool.and_false, Bool.true_and, Bool.and_true, Bool.or_self, Bool.or_false, Bool.false_or, Bool.or_true, Bool.true_or, Bool.false_eq_true, if_false, if_true, Bool.and_self, *]
    · repeat' (first | simp only [go_sem, Nat.reduceEqDiff, Nat.reduceAdd, Nat.reduceLT, Nat.reduceLeDiff, reduceIte, and_self, decide_true, decide_false, beq_self_eq_true, Bool.not_true, Bool.not_false, decide_true, decide_false, true_and, and_true, k1, k2, *] | (refine Cs_of (fun _ => ?_) (fun _ => ?_)))
      all_goals first | contradiction | simp only [described, Bool.false_and, Bool.and_false, Bool.true_and, Bool.and_true, Bool.or_self, Bool.or_false, Bool.false_or, Bool.or_true, Bool.true_or, Bool.false_eq_true, if_false, if_true, Bool.and_self, *]
  · repeat' (first | simp only [go_sem, Nat.reduceEqDiff, Nat.reduceAdd, Nat.reduceLT, Nat.reduceLeDiff, reduceIte, and_self, decide_true, decide_false, beq_self_eq_true, Bool.not_true, Bool.not_false, decide_true, decide_false, true_and, and_true, k1, *] | (refine Cs_of (fun _ => ?_) (fun _ => ?_)))
    all_goals first | contradiction | simp only [described, Bool.false_and, Bool.and_false, Bool.true_and, Bool.and_true, Bool.or_self, Bool.or_false, Bool.false_or, Bool.or_true, Bool.true_or, Bool.false_eq_true, if_false, if_true, Bool.and_self, *]
theorem isMark_true_false (f : Int) (m : Mk) (hcnt : (decide (0 ≤ m.lo) && decide (m.lo ≤ m.hi)) = true) (hsp : (decide (0 ≤ m.fr) && decide (m.fr ≤ m.to)) = false) : RV ft 60 [I64 f, encM m] (.bool (described m f)) := by
  refine RV_of ft60 rfl ?_
  simp only [c60, r60]
  simp only [go_sem, Nat.reduceEqDiff, Nat.reduceAdd, Nat.reduceLT, Nat.reduceLeDiff, reduceIte, and_self, decide_true, decide_false, beq_self_eq_true, WB59, WVH_eq (within_ok _ _ _), hcnt, hsp, true_and]
  cases k1 : (m.kind == 1)
  · cases k2 : (m.kind == 2)
    · cases k3 : (m.kind == 3)
      · cases k4 : (m.kind == 4)
        · cases k5 : (m.kind == 5)
          · repeat' (first | simp only [go_sem, Nat.reduceEqDiff, Nat.reduceAdd, Nat.reduceLT, Nat.reduceLeDiff, reduceIte, and_self, decide_true, decide_false, beq_self_eq_true, Bool.not_true, Bool.not_false, decide_true, decide_false, true_and, and_true, k1, k2, k3, k4, k5, *] | (refine Cs_of (fun _ => ?_) (fun _ => ?_)))
            all_goals first | contradiction | simp only [described, Bool.false_and, Bool.and_false, Bool.true_and, Bool.and_true, Bool.or_self, Bool.or_false, Bool.false_or, Bool.or_true, Bool.true_or, Bool.false_eq_true, if_false, if_true, Bool.and_self, *]
          · repeat' (first | simp only [go_sem, Nat.reduceEqDiff, Nat.reduceAdd, Nat.reduceLT, Nat.reduceLeDiff, reduceIte, and_self, decide_true, decide_false, beq_self_eq_true, Bool.not_true, Bool.not_false, decide_true, decide_false, true_and, and_true, k1, k2, k3, k4, k5, *] | (refine Cs_of (fun _ => ?_) (fun _ => ?_)))
            all_goals first | contradiction | simp only [described, Bool.false_and, Bool.and_false, Bool.true_and, Bool.and_true, Bool.or_self, Bool.or_false, Bool.false_or, Bool.or_true, Bool.true_or, Bool.false_eq_true, if_false, if_true, Bool.and_self, *]
        · repeat' (first | simp only [go_sem, Nat.reduceEqDiff, Nat.reduceAdd, Nat.reduceLT, Nat.reduceLeDiff, reduceIte, and_self, decide_true, decide_false, beq_self_eq_true, Bool.not_true, Bool.not_false, decide_true, decide_false, true_and, and_true, k1, k2, k3, k4, *] | (refine Cs_of (fun _ => ?_) (fun _ => ?_)))
          all_goals first | contradiction | simp only [described, Bool.false_and, Bool.and_false, Bool.true_and, Bool.and_true, Bool.or_self, Bool.or_false, Bool.false_or, Bool.or_true, Bool.true_or, Bool.false_eq_true, if_false, if_true, Bool.and_self, *]
      · repeat' (first | simp only [go_sem, Nat.reduceEqDiff, Nat.reduceAdd, Nat.reduceLT, Nat.reduceLeDiff, reduceIte, and_self, decide_true, decide_false, beq_self_eq_true, Bool.not_true, Bool.not_false, decide_true, decide_false, true_and, and_true, k1, k2, k3, *] | (refine Cs_of (fun _ => ?_) (fun _ => ?_)))
        all_goals first | contradiction | simp only [described, Bool.false_and, Bool.and_false, Bool.true_and, Bool.and_true, Bool.or_self, Bool.or_false, Bool.false_or, Bool.or_true, Bool.true_or, Bool.false_eq_true, if_false, if_true, Bool.and_self, *]
    · repeat' (first | simp only [go_sem, Nat.reduceEqDiff, Nat.reduceAdd, Nat.reduceLT, Nat.reduceLeDiff, reduceIte, and_self, decide_true, decide_false, beq_self_eq_true, Bool.not_true, Bool.not_false, decide_true, decide_false, true_and, and_true, k1, k2, *] | (refine Cs_of (fun _ => ?_) (fun _ => ?_)))
      all_goals first | contradiction | simp only [described, Bool.false_and, Bool.and_false, Bool.true_and, Bool.and_true, Bool.or_self, Bool.or_false, Bool.false_or, Bool.or_true, Bool.true_or, Bool.false_eq_true, if_false, if_true, Bool.and_self, *]
  · repeat' (first | simp only [go_sem, Nat.reduceEqDiff, Nat.reduceAdd, Nat.reduceLT, Nat.reduceLeDiff, reduceIte, and_self, decide_true, decide_false, beq_self_eq_true, Bool.not_true, Bool.not_false, decide_true, decide_false, true_and, and_true, k1, *] | (refine Cs_of (fun _ => ?_) (fun _ => ?_)))
    all_goals first | contradiction | simp only [described, Bool.false_and, Bool.and_false, Bool.true_and, Bool.and_true, Bool.or_self, Bool.or_false, Bool.false_or, Bool.or_true, Bool.true_or, Bool.false_eq_true, if_false, if_true, Bool.and_self, *]
theorem isMark_false_true (f : Int) (m : Mk) (hcnt : (decide (0 ≤ m.lo) && decide (m.lo ≤ m.hi)) = false) (hsp : (decide (0 ≤ m.fr) && decide (m.fr ≤ m.to)) = true) : RV ft 60 [I64 f, encM m] (.bool (described m f)) := by
  refine RV_of ft60 rfl ?_
  simp only [c60, r60]
  simp only [go_sem, Nat.reduceEqDiff, Nat.reduceAdd, Nat.reduceLT, Nat.reduceLeDiff, reduceIte, and_self, decide_true, decide_false, beq_self_eq_true, WB59, WVH_eq (within_ok _ _ _), hcnt, hsp, true_and]
  cases k1 : (m.kind == 1)
  · cases k2 : (m.kind == 2)
    · cases k3 : (m.kind == 3)
      · cases k4 : (m.kind == 4)
        · cases k5 : (m.kind == 5)
          · repeat' (first | simp only [go_sem, Nat.reduceEqDiff, Nat.reduceAdd, Nat.reduceLT, Nat.reduceLeDiff, reduceIte, and_self, decide_true, decide_false, beq_self_eq_true, Bool.not_true, Bool.not_false, decide_true, decide_false, true_and, and_true, k1, k2, k3, k4, k5, *] | (refine Cs_of (fun _ => ?_) (fun _ => ?_)))
            all_goals first | contradiction | simp only [described, Bool.false_and, Bool.and_false, Bool.true_and, Bool.and_true, Bool.or_self, Bool.or_false, Bool.false_or, Bool.or_true, Bool.true_or, Bool.false_eq_true, if_false, if_true, Bool.and_self, *]
          · repeat' (first | simp only [go_sem, Nat.reduceEqDiff, Nat.reduceAdd, Nat.reduceLT, Nat.reduceLeDiff, reduceIte, and_self, decide_true, decide_false, beq_self_eq_true, Bool.not_true, Bool.not_false, decide_true, decide_false, true_and, and_true, k1, k2, k3, k4, k5, *] | (refine Cs_of (fun _ => ?_) (fun _ => ?_)))
            all_goals first | contradiction | simp only [described, Bool.false_and, Bool.and_false, Bool.true_and, Bool.and_true, Bool.or_self, Bool.or_false, Bool.false_or, Bool.or_true, Bool.true_or, Bool.false_eq_true, if_false, if_true, Bool.and_self, *]
        · repeat' (first | simp only [go_sem, Nat.reduceEqDiff, Nat.reduceAdd, Nat.reduceLT, Nat.reduceLeDiff, reduceIte, and_self, decide_true, decide_false, beq_self_eq_true, Bool.not_true, Bool.not_false, decide_true, decide_false, true_and, and_true, k1, k2, k3, k4, *] | (refine Cs_of (fun _ => ?_) (fun _ => ?_)))
          all_goals first | contradiction | simp only [described, Bool.false_and, Bool.and_false, Bool.true_and, Bool.and_true, Bool.or_self, Bool.or_false, Bool.false_or, Bool.or_true, Bool.true_or, Bool.false_eq_true, if_false, if_true, Bool.and_self, *]
      · repeat' (first | simp only [go_sem, Nat.reduceEqDiff, Nat.reduceAdd, Nat.reduceLT, Nat.reduceLeDiff, reduceIte, and_self, decide_true, decide_false, beq_self_eq_true, Bool.not_true, Bool.not_false, decide_true, decide_false, true_and, and_true, k1, k2, k3, *] | (refine Cs_of (fun _ => ?_) (fun _ => ?_)))
        all_goals first | contradiction | simp only [described, Bool.false_and, Bool.and_false, Bool.true_and, Bool.and_true, Bool.or_self, Bool.or_false, Bool.false_or, Bool.or_true, Bool.true_or, Bool.false_eq_true, if_false, if_true, Bool.and_self, *]
    · repeat' (first | simp only [go_sem, Nat.reduceEqDiff, Nat.reduceAdd, Nat.reduceLT, Nat.reduceLeDiff, reduceIte, and_self, decide_true, decide_false, beq_self_eq_true, Bool.not_true, Bool.not_false, decide_true, decide_false, true_and, and_true, k1, k2, *] | (refine Cs_of (fun _ => ?_) (fun _ => ?_)))
      all_goals first | contradiction | simp only [described, Bool.false_and, Bool.and_false, Bool.true_and, Bool.and_true, Bool.or_self, Bool.or_false, Bool.false_or, Bool.or_true, Bool.true_or, Bool.false_eq_true, if_false, if_true, Bool.and_self, *]
  · repeat' (first | simp only [go_sem, Nat.reduceEqDiff, Nat.reduceAdd, Nat.reduceLT, Nat.reduceLeDiff, reduceIte, and_self, decide_true, decide_false, beq_self_eq_true, Bool.not_true, Bool.not_false, decide_true, decide_false, true_and, and_true, k1, *] | (refine Cs_of (fun _ => ?_) (fun _ => ?_)))
    all_goals first | contradiction | simp only [described, Bool.false_and, Bool.and_false, Bool.true_and, Bool.and_true, Bool.or_self, Bool.or_false, Bool.false_or, Bool.or_true, Bool.true_or, Bool.false_eq_true, if_false, if_true, Bool.and_self, *]
theorem isMark_false_false (f : Int) (m : Mk) (hcnt : (decide (0 ≤ m.lo) && decide (m.lo ≤ m.hi)) = false) (hsp : (decide (0 ≤ m.fr) && decide (m.fr ≤ m.to)) = false) : RV ft 60 [I64 f, encM m] (.bool (described m f)) := by
  refine RV_of ft60 rfl ?_
  simp only [c60, r60]
  simp only [go_sem, Nat.reduceEqDiff, Nat.reduceAdd, Nat.reduceLT, Nat.reduceLeDiff, reduceIte, and_self, decide_true, decide_false, beq_self_eq_true, WB59, WVH_eq (within_ok _ _ _), hcnt, hsp, true_and]
  cases k1 : (m.kind == 1)
  · cases k2 : (m.kind == 2)
    · cases k3 : (m.kind == 3)
      · cases k4 : (m.kind == 4)
        · cases k5 : (m.kind == 5)
          · repeat' (first | simp only [go_sem, Nat.reduceEqDiff, Nat.reduceAdd, Nat.reduceLT, Nat.reduceLeDiff, reduceIte, and_self, decide_true, decide_false, beq_self_eq_true, Bool.not_true, Bool.not_false, decide_true, decide_false, true_and, and_true, k1, k2, k3, k4, k5, *] | (refine Cs_of (fun _ => ?_) (fun _ => ?_)))
            all_goals first | contradiction | simp only [described, Bool.false_and, Bool.and_false, Bool.true_and, Bool.and_true, Bool.or_self, Bool.or_false, Bool.false_or, Bool.or_true, Bool.true_or, Bool.false_eq_true, if_false, if_true, Bool.and_self, *]
          · repeat' (first | simp only [go_sem, Nat.reduceEqDiff, Nat.reduceAdd, Nat.reduceLT, Nat.reduceLeDiff, reduceIte, and_self, decide_true, decide_false, beq_self_eq_true, Bool.not_true, Bool.not_false, decide_true, decide_false, true_and, and_true, k1, k2, k3, k4, k5, *] | (refine Cs_of (fun _ => ?_) (fun _ => ?_)))
            all_goals first | contradiction | simp only [described, Bool.false_and, Bool.and_false, Bool.true_and, Bool.and_true, Bool.or_self, Bool.or_false, Bool.false_or, Bool.or_true, Bool.true_or, Bool.false_eq_true, if_false, if_true, Bool.and_self, *]
        · repeat' (first | simp only [go_sem, Nat.reduceEqDiff, Nat.reduceAdd, Nat.reduceLT, Nat.reduceLeDiff, reduceIte, and_self, decide_true, decide_false, beq_self_eq_true, Bool.not_true, Bool.not_false, decide_true, decide_false, true_and, and_true, k1, k2, k3, k4, *] | (refine Cs_of (fun _ => ?_) (fun _ => ?_)))
          all_goals first | contradiction | simp only [described, Bool.false_and, Bool.and_false, Bool.true_and, Bool.and_true, Bool.or_self, Bool.or_false, Bool.false_or, Bool.or_true, Bool.true_or, Bool.false_eq_true, if_false, if_true, Bool.and_self, *]
      · repeat' (first | simp only [go_sem, Nat.reduceEqDiff, Nat.reduceAdd, Nat.reduceLT, Nat.reduceLeDiff, reduceIte, and_self, decide_true, decide_false, beq_self_eq_true, Bool.not_true, Bool.not_false, decide_true, decide_false, true_and, and_true, k1, k2, k3, *] | (refine Cs_of (fun _ => ?_) (fun _ => ?_)))
        all_goals first | contradiction | simp only [described, Bool.false_and, Bool.and_false, Bool.true_and, Bool.and_true, Bool.or_self, Bool.or_false, Bool.false_or, Bool.or_true, Bool.true_or, Bool.false_eq_true, if_false, if_true, Bool.and_self, *]
    · repeat' (first | simp only [go_sem, Nat.reduceEqDiff, Nat.reduceAdd, Nat.reduceLT, Nat.reduceLeDiff, reduceIte, and_self, decide_true, decide_false, beq_self_eq_true, Bool.not_true, Bool.not_false, decide_true, decide_false, true_and, and_true, k1, k2, *] | (refine Cs_of (fun _ => ?_) (fun _ => ?_)))
      all_goals first | contradiction | simp only [described, Bool.false_and, Bool.and_false, Bool.true_and, Bool.and_true, Bool.or_self, Bool.or_false, Bool.false_or, Bool.or_true, Bool.true_or, Bool.false_eq_true, if_false, if_true, Bool.and_self, *]
  · repeat' (first | simp only [go_sem, Nat.reduceEqDiff, Nat.reduceAdd, Nat.reduceLT, Nat.reduceLeDiff, reduceIte, and_self, decide_true, decide_false, beq_self_eq_true, Bool.not_true, Bool.not_false, decide_true, decide_false, true_and, and_true, k1, *] | (refine Cs_of (fun _ => ?_) (fun _ => ?_)))
    all_goals first | contradiction | simp only [described, Bool.false_and, Bool.and_false, Bool.true_and, Bool.and_true, Bool.or_self, Bool.or_false, Bool.false_or, Bool.or_true, Bool.true_or, Bool.false_eq_true, if_false, if_true, Bool.and_self, *]
theorem isMark_ok (f : Int) (m : Mk) : RV ft 60 [I64 f, encM m] (.bool (described m f)) := by
  cases hcnt : (decide (0 ≤ m.lo) && decide (m.lo ≤ m.hi)) <;> cases hsp : (decide (0 ≤ m.fr) && decide (m.fr ≤ m.to))
  · exact isMark_false_false f m hcnt hsp
  · exact isMark_false_true f m hcnt hsp
  · exact isMark_true_false f m hcnt hsp
  · exact isMark_true_true f m hcnt hsp
theorem refCheck_ok (r : Rl) (hl : r.marks.length < 1000000) : RV ft 22 [encR r] (I64 (checkR r)) := by
  refine RV_of ft22 rfl ?_
  simp only [c22, r22]
  have hw : (decide (1 ≤ r.feet) && decide (r.feet ≤ 16)) = !(decide (r.feet < 1) || decide (16 < r.feet)) := by
    rw [Bool.eq_iff_iff]; simp
  simp only [go_sem, Nat.reduceEqDiff, Nat.reduceAdd, Nat.reduceLT, Nat.reduceLeDiff, reduceIte, and_self, decide_true, decide_false, beq_self_eq_true, sn_ms, WB59, WVH_eq (within_ok _ _ _), true_and, List.length_map, hw, Bool.not_not]
  by_cases hc : ((decide (r.feet < 1) || decide (16 < r.feet)) || decide (10 < (r.marks.length : Int))) = true
  · have hch : checkR r = 10 := by unfold checkR; rw [if_pos hc]
    by_cases h1 : (decide (r.feet < 1) || decide (16 < r.feet)) = true
    · simp only [go_sem, Nat.reduceEqDiff, Nat.reduceAdd, Nat.reduceLT, Nat.reduceLeDiff, reduceIte, and_self, decide_true, decide_false, beq_self_eq_true, h1, hch]
    · have h1' : (decide (r.feet < 1) || decide (16 < r.feet)) = false := by simpa using h1
      have h2 : decide (10 < (r.marks.length : Int)) = true := by rw [h1', Bool.false_or] at hc; exact hc
      simp only [go_sem, Nat.reduceEqDiff, Nat.reduceAdd, Nat.reduceLT, Nat.reduceLeDiff, reduceIte, and_self, decide_true, decide_false, beq_self_eq_true, h1', h2, hch, List.length_map]
  · have hc' : ((decide (r.feet < 1) || decide (16 < r.feet)) || decide (10 < (r.marks.length : Int))) = false := by simpa using hc
    have h1' : (decide (r.feet < 1) || decide (16 < r.feet)) = false := by
      rw [Bool.or_eq_false_iff] at hc'; exact hc'.1
    have h2 : decide (10 < (r.marks.length : Int)) = false := by rw [Bool.or_eq_false_iff] at hc'; exact hc'.2
    have hch : checkR r = if r.marks.any (fun m => !described m r.feet) then 11 else 0 := by unfold checkR; rw [if_neg hc]
    simp only [go_sem, Nat.reduceEqDiff, Nat.reduceAdd, Nat.reduceLT, Nat.reduceLeDiff, reduceIte, and_self, decide_true, decide_false, beq_self_eq_true, h1', h2, List.length_map]
    refine WL_inv (α := Nat × List Mk) (fun a e m => e 1 = .ptr 0 0 0 ∧ m = ⟨[.live [encR r] 2], []⟩ ∧ e 3 = I64 a.1 ∧ r.marks.drop a.1 = a.2 ∧ a.1 ≤ r.marks.length ∧ checkR r = if a.2.any (fun m => !described m r.feet) then 11 else 0) (fun a => r.marks.length - a.1) (0, r.marks) ?_ ?_
    · simp only [go_sem, Nat.reduceEqDiff, Nat.reduceAdd, Nat.reduceLT, Nat.reduceLeDiff, reduceIte, and_self, decide_true, decide_false, beq_self_eq_true]
      exact ⟨trivial, trivial, rfl, trivial, by omega, hch⟩
    · rintro ⟨k, l⟩ e m ⟨g1, rfl, g3, hd, hk, he⟩
      dsimp only at g3 hd hk he
      rcases l with _ | ⟨x, l⟩
      · have hk' := drop_nil hd
        simp only [go_sem, Nat.reduceEqDiff, Nat.reduceAdd, Nat.reduceLT, Nat.reduceLeDiff, reduceIte, and_self, decide_true, decide_false, beq_self_eq_true, g1, g3, List.length_map, dec_ge hk']
        rw [he]; rfl
      · obtain ⟨hg, hd', hlt⟩ := drop_cons hd
        have hw : IntKind.i64.wrap ((k : Int) + 1) = ((k + 1 : Nat) : Int) := by rw [wrap_i64 _ (by omega) (by omega)]; rfl
        simp only [go_sem, Nat.reduceEqDiff, Nat.reduceAdd, Nat.reduceLT, Nat.reduceLeDiff, reduceIte, and_self, decide_true, decide_false, beq_self_eq_true, g1, g3, List.length_map, dec_lt hlt, dec_nn, Int.toNat_natCast, List.getElem?_map, hg, WB60, WVH_eq (isMark_ok _ _), true_and]
        refine Cs_of (fun hx => ?_) fun hx => ?_
        · simp only [go_sem, Nat.reduceEqDiff, Nat.reduceAdd, Nat.reduceLT, Nat.reduceLeDiff, reduceIte, and_self, decide_true, decide_false, beq_self_eq_true, g3, hw]
          refine Nx_of (k + 1, l) (by simp; omega) ?_
          simp only [go_sem, Nat.reduceEqDiff, Nat.reduceAdd, Nat.reduceLT, Nat.reduceLeDiff, reduceIte, and_self, decide_true, decide_false, beq_self_eq_true, g1]
          refine ⟨trivial, trivial, trivial, hd', by omega, ?_⟩
          rw [he]; simp [hx]
        · simp only [go_sem, Nat.reduceEqDiff, Nat.reduceAdd, Nat.reduceLT, Nat.reduceLeDiff, reduceIte, and_self, decide_true, decide_false, beq_self_eq_true]
          rw [he]; simp [hx]
def farR (r : Rl) : Bool := decide (40 < (r.marks.length : Int)) || (decide (9 < r.feet) && decide (r.feet ≤ 16))
theorem Far_ok (r : Rl) : RV ft 14 [encR r] (.bool (farR r)) := by
  refine RV_of ft14 rfl ?_
  simp only [c14, r14]
  cases h1 : decide (40 < (r.marks.length : Int)) <;> cases h2 : decide (9 < r.feet)
  all_goals simp only [go_sem, Nat.reduceEqDiff, Nat.reduceAdd, Nat.reduceLT, Nat.reduceLeDiff, reduceIte, and_self, decide_true, decide_false, beq_self_eq_true, List.length_map, h1, h2, farR, Bool.true_or, Bool.false_or, Bool.true_and, Bool.false_and]
theorem near_of {r : Rl} (h : farR r = false) : Near r := by
  unfold farR at h
  simp at h
  refine ⟨by omega, fun h0 => ?_⟩
  unfold checkR at h0
  split at h0
  · cases h0
  · rename_i h1
    simp at h1
    omega
def readyR (r : Rl) : Bool := !farR r && checkR r == 0
theorem ready_ok (r : Rl) : RV ft 40 [encR r] (.bool (readyR r)) := by
  refine RV_of ft40 rfl ?_
  simp only [c40, r40]
  cases hf : farR r
  · have hn := near_of hf
    simp only [go_sem, Nat.reduceEqDiff, Nat.reduceAdd, Nat.reduceLT, Nat.reduceLeDiff, reduceIte, and_self, decide_true, decide_false, beq_self_eq_true, sn_ms, WB14, WVH_eq (Far_ok r), true_and, hot_ms, hf, WB22, WVH_eq (refCheck_ok r hn.few), readyR]
  · simp only [go_sem, Nat.reduceEqDiff, Nat.reduceAdd, Nat.reduceLT, Nat.reduceLeDiff, reduceIte, and_self, decide_true, decide_false, beq_self_eq_true, sn_ms, WB14, WVH_eq (Far_ok r), true_and, hot_ms, hf, readyR, Bool.false_and]
theorem ready_spec {r : Rl} (h : readyR r = true) : Near r ∧ checkR r = 0 ∧ Ok r r.feet.toNat := by
  unfold readyR at h
  simp at h
  have := near_of h.1
  exact ⟨this, h.2, this.ok h.2⟩
abbrev encI (l : List Int) : AV := .sl (l.map fun (i : Int) => I64 i) .unk
theorem sn_is (m : Mem) (k : Nat) (l : List Int) : (l.map fun (i : Int) => I64 i).map (snap m (k + 1)) = l.map fun (i : Int) => I64 i := by rw [List.map_map]; rfl
theorem hot_is (k : Nat) (l : List Int) : (l.map fun (i : Int) => I64 i).any (hot (k + 1)) = false := by
  induction l with
  | nil => rfl
  | cons a l ih => simp only [List.map_cons, List.any_cons, ih]; rfl
theorem has_ok (l : List Int) (n : Int) (hl : l.length < 1000000) : RV ft 50 [encI l, I64 n] (.bool (l.any fun x => x == n)) := by
  refine RV_of ft50 rfl ?_
  simp only [c50, r50]
  simp only [go_sem, Nat.reduceEqDiff, Nat.reduceAdd, Nat.reduceLT, Nat.reduceLeDiff, reduceIte, and_self, decide_true, decide_false, beq_self_eq_true, List.length_map]
  refine WL_inv (α := Nat × List Int) (fun a e m => e 0 = encI l ∧ e 1 = I64 n ∧ e 5 = I64 a.1 ∧ l.drop a.1 = a.2 ∧ a.1 ≤ l.length ∧ (l.any fun x => x == n) = (a.2.any fun x => x == n)) (fun a => l.length - a.1) (0, l) ?_ ?_
  · simp only [go_sem, Nat.reduceEqDiff, Nat.reduceAdd, Nat.reduceLT, Nat.reduceLeDiff, reduceIte, and_self, decide_true, decide_false, beq_self_eq_true]
    exact ⟨trivial, trivial, rfl, trivial, by omega, trivial⟩
  · rintro ⟨k, r⟩ e m ⟨g0, g1, g5, hd, hk, he⟩
    dsimp only at g5 hd hk he
    rcases r with _ | ⟨x, r⟩
    · have hk' := drop_nil hd
      simp only [go_sem, Nat.reduceEqDiff, Nat.reduceAdd, Nat.reduceLT, Nat.reduceLeDiff, reduceIte, and_self, decide_true, decide_false, beq_self_eq_true, g0, g1, g5, List.length_map, dec_ge hk']
      rw [he]; rfl
    · obtain ⟨hg, hd', hlt⟩ := drop_cons hd
      have hw : IntKind.i64.wrap ((k : Int) + 1) = ((k + 1 : Nat) : Int) := by rw [wrap_i64 _ (by omega) (by omega)]; rfl
      simp only [go_sem, Nat.reduceEqDiff, Nat.reduceAdd, Nat.reduceLT, Nat.reduceLeDiff, reduceIte, and_self, decide_true, decide_false, beq_self_eq_true, g0, g1, g5, List.length_map, dec_lt hlt, dec_nn, Int.toNat_natCast, List.getElem?_map, hg]
      refine Cs_of (fun hx => ?_) fun hx => ?_
      · simp only [go_sem, Nat.reduceEqDiff, Nat.reduceAdd, Nat.reduceLT, Nat.reduceLeDiff, reduceIte, and_self, decide_true, decide_false, beq_self_eq_true]
        rw [he]; simp [hx]
      · simp only [go_sem, Nat.reduceEqDiff, Nat.reduceAdd, Nat.reduceLT, Nat.reduceLeDiff, reduceIte, and_self, decide_true, decide_false, beq_self_eq_true, g5, hw]
        refine Nx_of (k + 1, r) (by simp; omega) ?_
        simp only [go_sem, Nat.reduceEqDiff, Nat.reduceAdd, Nat.reduceLT, Nat.reduceLeDiff, reduceIte, and_self, decide_true, decide_false, beq_self_eq_true, g0, g1]
        exact ⟨trivial, trivial, trivial, hd', by omega, by rw [he]; simp [hx]⟩
def sameI : List Int → List Int → Bool
  | [], [] => true
  | a :: l, b :: r => a == b && sameI l r
  | _, _ => false
theorem sameI_iff : ∀ l r, sameI l r = true ↔ l = r
  | [], [] => by simp [sameI]
  | [], b :: r => by simp [sameI]
  | a :: l, [] => by simp [sameI]
  | a :: l, b :: r => by simp [sameI, sameI_iff l r]
theorem sameI_len : ∀ {l r : List Int}, l.length ≠ r.length → sameI l r = false
  | [], [], h => by simp at h
  | [], b :: r, h => rfl
  | a :: l, [], h => rfl
  | a :: l, b :: r, h => by simp [sameI]; intro; exact sameI_len (by simpa using h)
theorem sameInts_ok (l r : List Int) (hl : l.length < 1000000) : RV ft 39 [encI l, encI r] (.bool (sameI l r)) := by
  refine RV_of ft39 rfl ?_
  simp only [c39, r39]
  by_cases hlen : l.length = r.length
  · have h0 : ((l.length : Int) != (r.length : Int)) = false := by simp; omega
    simp only [go_sem, Nat.reduceEqDiff, Nat.reduceAdd, Nat.reduceLT, Nat.reduceLeDiff, reduceIte, and_self, decide_true, decide_false, beq_self_eq_true, List.length_map, h0]
    refine WL_inv (α := Nat × List Int × List Int) (fun a e m => e 0 = encI l ∧ e 1 = encI r ∧ e 5 = I64 a.1 ∧ l.drop a.1 = a.2.1 ∧ r.drop a.1 = a.2.2 ∧ a.1 ≤ l.length ∧ sameI l r = sameI a.2.1 a.2.2) (fun a => l.length - a.1) (0, l, r) ?_ ?_
    · simp only [go_sem, Nat.reduceEqDiff, Nat.reduceAdd, Nat.reduceLT, Nat.reduceLeDiff, reduceIte, and_self, decide_true, decide_false, beq_self_eq_true]
      exact ⟨trivial, trivial, rfl, trivial, trivial, by omega, trivial⟩
    · rintro ⟨k, l', r'⟩ e m ⟨g0, g1, g5, hd, hd2, hk, he⟩
      dsimp only at g5 hd hd2 hk he
      rcases l' with _ | ⟨x, l'⟩
      · have hk' := drop_nil hd
        have : r' = [] := by rw [← hd2]; simp; omega
        subst this
        simp only [go_sem, Nat.reduceEqDiff, Nat.reduceAdd, Nat.reduceLT, Nat.reduceLeDiff, reduceIte, and_self, decide_true, decide_false, beq_self_eq_true, g0, g1, g5, List.length_map, dec_ge hk']
        rw [he]; rfl
      · obtain ⟨hg, hd', hlt⟩ := drop_cons hd
        rcases r' with _ | ⟨y, r'⟩
        · have := drop_nil hd2; omega
        obtain ⟨hg2, hd2', hlt2⟩ := drop_cons hd2
        have hw : IntKind.i64.wrap ((k : Int) + 1) = ((k + 1 : Nat) : Int) := by rw [wrap_i64 _ (by omega) (by omega)]; rfl
        simp only [go_sem, Nat.reduceEqDiff, Nat.reduceAdd, Nat.reduceLT, Nat.reduceLeDiff, reduceIte, and_self, decide_true, decide_false, beq_self_eq_true, g0, g1, g5, List.length_map, dec_lt hlt, dec_nn, Int.toNat_natCast, List.getElem?_map, hg, hg2]
        refine Cs_of (fun hx => ?_) fun hx => ?_
        · simp only [go_sem, Nat.reduceEqDiff, Nat.reduceAdd, Nat.reduceLT, Nat.reduceLeDiff, reduceIte, and_self, decide_true, decide_false, beq_self_eq_true]
          have hx' : (x == y) = false := by simpa using hx
          rw [he]; simp [sameI, hx']
        · have hx' : (x == y) = true := by simpa using hx
          simp only [go_sem, Nat.reduceEqDiff, Nat.reduceAdd, Nat.reduceLT, Nat.reduceLeDiff, reduceIte, and_self, decide_true, decide_false, beq_self_eq_true, g5, hw]
          refine Nx_of (k + 1, l', r') (by simp; omega) ?_
          simp only [go_sem, Nat.reduceEqDiff, Nat.reduceAdd, Nat.reduceLT, Nat.reduceLeDiff, reduceIte, and_self, decide_true, decide_false, beq_self_eq_true, g0, g1]
          exact ⟨trivial, trivial, trivial, hd', hd2', by omega, by rw [he]; simp [sameI, hx']⟩
  · have h0 : ((l.length : Int) != (r.length : Int)) = true := by simp; omega
    simp only [go_sem, Nat.reduceEqDiff, Nat.reduceAdd, Nat.reduceLT, Nat.reduceLeDiff, reduceIte, and_self, decide_true, decide_false, beq_self_eq_true, List.length_map, h0]
    rw [sameI_len hlen]
end Go.Ab.T
end

section
namespace Go.Ab.T
set_option maxRecDepth 8000
set_option linter.unusedSimpArgs false
set_option linter.unusedVariables false
/-! ### Bounds over truths -/
theorem fmin_le (c : Nat → Nat) : ∀ (l : List Nat) (a : Nat), l.foldl (fun a t => min a (c t)) a ≤ a ∧ ∀ t ∈ l, l.foldl (fun a t => min a (c t)) a ≤ c t
  | [], a => ⟨Nat.le_refl a, fun t h => by cases h⟩
  | x :: l, a => by
    obtain ⟨h1, h2⟩ := fmin_le c l (min a (c x))
    refine ⟨Nat.le_trans h1 (Nat.min_le_left _ _), fun t ht => ?_⟩
    rcases List.mem_cons.1 ht with rfl | ht
    · exact Nat.le_trans h1 (Nat.min_le_right _ _)
    · exact h2 t ht
theorem fmin_mem (c : Nat → Nat) : ∀ (l : List Nat) (a : Nat), l.foldl (fun a t => min a (c t)) a = a ∨ ∃ t ∈ l, l.foldl (fun a t => min a (c t)) a = c t
  | [], a => Or.inl rfl
  | x :: l, a => by
    rcases fmin_mem c l (min a (c x)) with h | ⟨t, ht, h⟩
    · rcases Nat.le_total a (c x) with h2 | h2
      · exact Or.inl (h.trans (Nat.min_eq_left h2))
      · exact Or.inr ⟨x, by simp, h.trans (Nat.min_eq_right h2)⟩
    · exact Or.inr ⟨t, List.mem_cons_of_mem _ ht, h⟩
theorem fmax_ge (c : Nat → Nat) : ∀ (l : List Nat) (a : Nat), a ≤ l.foldl (fun a t => max a (c t)) a ∧ ∀ t ∈ l, c t ≤ l.foldl (fun a t => max a (c t)) a
  | [], a => ⟨Nat.le_refl a, fun t h => by cases h⟩
  | x :: l, a => by
    obtain ⟨h1, h2⟩ := fmax_ge c l (max a (c x))
    refine ⟨Nat.le_trans (Nat.le_max_left _ _) h1, fun t ht => ?_⟩
    rcases List.mem_cons.1 ht with rfl | ht
    · exact Nat.le_trans (Nat.le_max_right _ _) h1
    · exact h2 t ht
theorem fmax_mem (c : Nat → Nat) : ∀ (l : List Nat) (a : Nat), l.foldl (fun a t => max a (c t)) a = a ∨ ∃ t ∈ l, l.foldl (fun a t => max a (c t)) a = c t
  | [], a => Or.inl rfl
  | x :: l, a => by
    rcases fmax_mem c l (max a (c x)) with h | ⟨t, ht, h⟩
    · rcases Nat.le_total a (c x) with h2 | h2
      · exact Or.inr ⟨x, by simp, h.trans (Nat.max_eq_right h2)⟩
      · exact Or.inl (h.trans (Nat.max_eq_left h2))
    · exact Or.inr ⟨t, List.mem_cons_of_mem _ ht, h⟩
theorem low_spec {r : Rl} (h0 : checkR r = 0) (hn : TL r ≠ []) (c : Nat → Nat) : (∀ t ∈ TL r, lowT r c ≤ c t) ∧ ∃ t ∈ TL r, lowT r c = c t := by
  unfold lowT
  rw [if_pos h0]
  cases hT : TL r with
  | nil => exact absurd hT hn
  | cons x l =>
    obtain ⟨h1, h2⟩ := fmin_le c l (c x)
    refine ⟨fun t ht => ?_, ?_⟩
    · rcases List.mem_cons.1 ht with rfl | ht
      · exact h1
      · exact h2 t ht
    · rcases fmin_mem c l (c x) with h | ⟨t, ht, h⟩
      · exact ⟨x, by simp, h⟩
      · exact ⟨t, List.mem_cons_of_mem _ ht, h⟩
theorem high_spec {r : Rl} (h0 : checkR r = 0) (hn : TL r ≠ []) (c : Nat → Nat) : (∀ t ∈ TL r, c t ≤ highT r c) ∧ ∃ t ∈ TL r, highT r c = c t := by
  unfold highT
  rw [if_pos h0]
  cases hT : TL r with
  | nil => exact absurd hT hn
  | cons x l =>
    obtain ⟨h1, h2⟩ := fmax_ge c l (c x)
    refine ⟨fun t ht => ?_, ?_⟩
    · rcases List.mem_cons.1 ht with rfl | ht
      · exact h1
      · exact h2 t ht
    · rcases fmax_mem c l (c x) with h | ⟨t, ht, h⟩
      · exact ⟨x, by simp, h⟩
      · exact ⟨t, List.mem_cons_of_mem _ ht, h⟩
/-! ### One foot -/
theorem and_one_pow (t a : Nat) : t &&& 2 ^ a = if t.testBit a then 2 ^ a else 0 := by
  apply Nat.eq_of_testBit_eq
  intro i
  rw [Nat.testBit_and, Nat.testBit_two_pow]
  by_cases h : a = i
  · subst h
    cases hb : t.testBit a <;> simp [Nat.testBit_two_pow]
  · cases hb : t.testBit a <;> simp [Nat.testBit_two_pow, h]
theorem popc_zero : ∀ n, popc n 0 = 0
  | 0 => rfl
  | n + 1 => by simp [popc, popc_zero n]
theorem popc_pow : ∀ n a, a < n → popc n (2 ^ a) = 1
  | 0, a, h => by omega
  | n + 1, 0, h => by simp [popc, popc_zero]
  | n + 1, a + 1, h => by
    have h1 : 2 ^ (a + 1) % 2 = 0 := by rw [Nat.pow_succ]; omega
    have h2 : 2 ^ (a + 1) / 2 = 2 ^ a := by rw [Nat.pow_succ]; omega
    simp only [popc, h1, h2]
    rw [popc_pow n a (by omega)]
theorem popc_foot (t a : Nat) (h : a < 16) : popc 16 (t &&& btw a a) = if t.testBit a then 1 else 0 := by
  have : btw a a = 2 ^ a := by unfold btw; rw [Nat.pow_succ]; omega
  rw [this, and_one_pow]
  split
  · exact popc_pow 16 a h
  · exact popc_zero 16
theorem err_cases {r : Rl} (h0 : checkR r = 0) : errT r = if TL r = [] then 3 else 0 := by unfold errT; rw [if_pos h0]
/-- A foot is surely there just if each truth has it. -/
theorem foot_here {r : Rl} {n : Int} (h : readyR r = true) (h1 : 0 ≤ n) (h2 : n < r.feet) (hn : TL r ≠ []) : footE r n = 0 ∧ (footK r n = 1 ↔ ∀ t ∈ TL r, t.testBit n.toNat = true) := by
  obtain ⟨hnear, h0, hok⟩ := ready_spec h
  have h9 := hok.nine
  have harg : okArg r n n := ⟨h1, Int.le_refl n, h2⟩
  have he : wholeE r n n = 0 := by unfold wholeE; rw [if_pos h0, if_pos harg, err_cases h0, if_neg hn]
  refine ⟨he, ?_⟩
  have hlo : wholeLo r n n = lowT r (fun t => popc 16 (t &&& btw n.toNat n.toNat)) := by unfold wholeLo; rw [if_pos ⟨h0, harg⟩]
  obtain ⟨s1, t0, s2, s3⟩ := low_spec h0 hn (fun t => popc 16 (t &&& btw n.toNat n.toNat))
  have hpf : ∀ t, popc 16 (t &&& btw n.toNat n.toNat) = if t.testBit n.toNat then 1 else 0 := fun t => popc_foot t _ (by omega)
  unfold footK
  rw [if_pos he, hlo]
  constructor
  · intro h t ht
    have hl : lowT r (fun t => popc 16 (t &&& btw n.toNat n.toNat)) = 1 := by
      by_cases hl : lowT r (fun t => popc 16 (t &&& btw n.toNat n.toNat)) = 1
      · exact hl
      · rw [if_neg hl] at h; split at h <;> omega
    have := s1 t ht
    rw [hl] at this
    rw [hpf] at this
    by_cases hb : t.testBit n.toNat = true
    · exact hb
    · rw [if_neg hb] at this; omega
  · intro h
    have : lowT r (fun t => popc 16 (t &&& btw n.toNat n.toNat)) = 1 := by
      rw [s3, hpf, if_pos (h t0 s2)]
    rw [if_pos this]
/-! ### Prints that are put together -/
theorem andfold_bit (i : Nat) : ∀ (l : List Nat) (a : Nat), (l.foldl (fun a t => a &&& t) a).testBit i = (a.testBit i && l.all fun t => t.testBit i)
  | [], a => by simp
  | x :: l, a => by simp [andfold_bit i l, Nat.testBit_and, Bool.and_assoc]
theorem sure_bit (r : Rl) (i : Nat) (h : i < r.feet.toNat) : (sureL r).testBit i = (TL r).all fun t => t.testBit i := by
  unfold sureL
  rw [andfold_bit]
  have : (allN r.feet.toNat).testBit i = true := by unfold allN; rw [Nat.testBit_two_pow_sub_one]; simpa using h
  rw [this, Bool.true_and]
theorem have_bit (i : Nat) : ∀ (l : List Rl) (a : Nat), (l.foldl (fun h r => h ||| sureL r) a).testBit i = (a.testBit i || l.any fun r => (sureL r).testBit i)
  | [], a => by simp
  | x :: l, a => by simp [have_bit i l, Nat.testBit_or, Bool.or_assoc]
theorem andn_bit (a b i : Nat) (h : i < 16) : (andn a b).testBit i = (a.testBit i && !b.testBit i) := by
  unfold andn
  rw [Nat.testBit_and, Nat.testBit_xor, show (65535 : Nat) = 2 ^ 16 - 1 from rfl, Nat.testBit_two_pow_sub_one]
  simp [h]
theorem listL_mem (t n i : Nat) : i ∈ listL t n ↔ i < n ∧ t.testBit i = true := by
  unfold listL; rw [List.mem_filter, List.mem_range]
theorem firstE_zero : ∀ {l : List Rl}, (∀ r ∈ l, checkR r = 0) → firstE l = 0
  | [], _ => rfl
  | a :: l, h => by unfold firstE; rw [if_pos (h a (by simp))]; exact firstE_zero fun r hr => h r (List.mem_cons_of_mem _ hr)
/-- What Lacks says of prints of one length that all have truths. -/
theorem lacks_mem {l : List Rl} {q : Rl} (hq : l[0]? = some q) (h4 : l.length ≤ 4) (hr : ∀ r ∈ l, readyR r = true) (hs : ∀ r ∈ l, r.feet = q.feet) (hn : ∀ r ∈ l, TL r ≠ []) :
    lacksE l = 0 ∧ ∀ i : Nat, i ∈ lacksL l ↔ i < q.feet.toNat ∧ ∀ r ∈ l, ∃ t ∈ TL r, t.testBit i = false := by
  have hf : firstE l = 0 := firstE_zero fun r h => (ready_spec (hr r h)).2.1
  have hs' : sameL l = true := by
    unfold sameL; rw [hq]
    simp only [decide_eq_true h4, Bool.true_and, Bool.not_eq_true', List.any_eq_false]
    intro r h; simp [hs r h]
  have hno : noneL l = false := by
    unfold noneL; rw [List.any_eq_false]; intro r h; have := hn r h; simpa using this
  have he : lacksE l = 0 := by unfold lacksE; rw [if_pos hf, if_pos hs', hno]; rfl
  refine ⟨he, fun i => ?_⟩
  have hf0 : feet0 l = q.feet.toNat := by unfold feet0; rw [hq]
  unfold lacksL
  rw [if_pos he, hf0, listL_mem]
  refine and_congr_right fun hi => ?_
  have hqm := List.mem_of_getElem? hq
  have h9 := (ready_spec (hr q hqm)).2.2.nine
  rw [andn_bit _ _ _ (by omega)]
  have h1 : (allN q.feet.toNat).testBit i = true := by unfold allN; rw [Nat.testBit_two_pow_sub_one]; simpa using hi
  rw [h1, Bool.true_and]
  unfold haveL
  rw [have_bit, Nat.zero_testBit, Bool.false_or, Bool.not_eq_true', List.any_eq_false]
  refine forall₂_congr fun r hrm => ?_
  rw [sure_bit r i (by rw [hs r hrm]; exact hi)]
  simp
end Go.Ab.T
end

section
namespace Go.Ab.T
set_option maxRecDepth 8000
set_option linter.unusedSimpArgs false
set_option linter.unusedVariables false
set_option maxHeartbeats 1000000
theorem i64_id (l : List Nat) : (l.map fun (i : Nat) => I64 i) = ((l.map fun (i : Nat) => (i : Int)).map fun (i : Int) => I64 i) := by rw [List.map_map]; rfl
theorem any_nat (l : List Nat) (n : Int) (hn : 0 ≤ n) : ((l.map fun (i : Nat) => (i : Int)).any fun x => x == n) = decide (n.toNat ∈ l) := by
  rw [Bool.eq_iff_iff, List.any_eq_true, decide_eq_true_iff]
  constructor
  · rintro ⟨x, hx, h⟩
    obtain ⟨i, hi, rfl⟩ := List.mem_map.1 hx
    have : (i : Int) = n := by simpa using h
    rw [← this, Int.toNat_natCast]; exact hi
  · intro h
    exact ⟨((n.toNat : Nat) : Int), List.mem_map.2 ⟨_, h, rfl⟩, by simp; omega⟩
theorem lacksL_len (l : List Rl) : (lacksL l).length ≤ feet0 l := by
  unfold lacksL listL
  split
  · exact Nat.le_trans (List.length_filter_le _ _) (by simp)
  · simp
theorem feet0_le {l : List Rl} (h : ∀ r ∈ l, readyR r = true) : feet0 l ≤ 9 := by
  unfold feet0
  cases hq : l[0]? with
  | none => simp
  | some q => exact (ready_spec (h q (List.mem_of_getElem? hq))).2.2.nine
theorem sn_nats (m : Mem) (k : Nat) (l : List Nat) : (l.map fun (i : Nat) => I64 i).map (snap m (k + 1)) = l.map fun (i : Nat) => I64 i := by rw [List.map_map]; rfl
theorem hot_nats (k : Nat) (l : List Nat) : (l.map fun (i : Nat) => I64 i).any (hot (k + 1)) = false := by
  rw [i64_id]; exact hot_is k _
theorem hasN_ok (l : List Nat) (n : Int) (hn : 0 ≤ n) (hl : l.length < 1000000) : RV ft 50 [.sl (l.map fun (i : Nat) => I64 i) .unk, I64 n] (.bool (decide (n.toNat ∈ l))) := by
  have := has_ok (l.map fun (i : Nat) => (i : Int)) n (by simpa using hl)
  rw [any_nat l n hn] at this
  rw [i64_id]; exact this
theorem ReelPut_run (l : List Rl) (foot : Int) : RV ft 13 [encRs l, I64 foot] (.bool true) := by
  refine RV_of ft13 rfl ?_
  simp only [c13, r13]
  cases c1 : decide ((l.length : Int) < 1)
  case true => simp only [go_sem, Nat.reduceEqDiff, Nat.reduceAdd, Nat.reduceLT, Nat.reduceLeDiff, reduceIte, and_self, decide_true, decide_false, beq_self_eq_true, List.length_map, c1, WB15, WVH_eq works_ok, true_and]
  cases c2 : decide (4 < (l.length : Int))
  case true => simp only [go_sem, Nat.reduceEqDiff, Nat.reduceAdd, Nat.reduceLT, Nat.reduceLeDiff, reduceIte, and_self, decide_true, decide_false, beq_self_eq_true, List.length_map, c1, c2, WB15, WVH_eq works_ok, true_and]
  have h1 : 1 ≤ l.length := by have := of_decide_eq_false c1; omega
  have h4 : l.length ≤ 4 := by have := of_decide_eq_false c2; omega
  obtain ⟨q, hq⟩ : ∃ q, l[0]? = some q := ⟨l[0], by simp⟩
  simp only [go_sem, Nat.reduceEqDiff, Nat.reduceAdd, Nat.reduceLT, Nat.reduceLeDiff, reduceIte, and_self, decide_true, decide_false, beq_self_eq_true, List.length_map, c1, c2]
  refine WL_inv (α := Nat × List Rl) (fun a e m => e 0 = encRs l ∧ e 1 = I64 foot ∧ e 5 = I64 a.1 ∧ l.drop a.1 = a.2 ∧ a.1 ≤ l.length ∧ m = ⟨[], []⟩ ∧
    ((∀ r ∈ a.2, readyR r = true ∧ r.feet = q.feet ∧ 0 ≤ foot ∧ foot < q.feet) → ∀ r ∈ l, readyR r = true ∧ r.feet = q.feet ∧ 0 ≤ foot ∧ foot < q.feet)) (fun a => l.length - a.1) (0, l) ?_ ?_
  · simp only [go_sem, Nat.reduceEqDiff, Nat.reduceAdd, Nat.reduceLT, Nat.reduceLeDiff, reduceIte, and_self, decide_true, decide_false, beq_self_eq_true]
    exact ⟨trivial, trivial, rfl, trivial, by omega, trivial, fun h => h⟩
  · rintro ⟨k, r⟩ e m ⟨g0, g1, g5, hd, hk, rfl, hall⟩
    dsimp only at g5 hd hk hall
    rcases r with _ | ⟨x, r⟩
    · have hk' := drop_nil hd
      have hall' := hall (fun r hr => by cases hr)
      clear hall
      have hqm := List.mem_of_getElem? hq
      obtain ⟨hq1, hq2, hf0, hf1⟩ := hall' q hqm
      have hready : ∀ r ∈ l, readyR r = true := fun r hr => (hall' r hr).1
      have hsame : ∀ r ∈ l, r.feet = q.feet := fun r hr => (hall' r hr).2.1
      have hnear : ∀ r ∈ l, Near r := fun r hr => (ready_spec (hready r hr)).1
      have hlen : (lacksL l).length < 1000000 := by have := lacksL_len l; have := feet0_le hready; omega
      have hhas := hasN_ok (lacksL l) foot hf0 hlen
      simp only [go_sem, Nat.reduceEqDiff, Nat.reduceAdd, Nat.reduceLT, Nat.reduceLeDiff, reduceIte, and_self, decide_true, decide_false, beq_self_eq_true, g0, g1, g5, List.length_map, dec_ge hk', sn_rs, WB37, WVH_eq (Lacks_ok l (by omega) hnear), true_and, hot_rs]
      refine WL_inv (α := Nat × List Rl × Bool × Bool) (fun a e m => e 0 = encRs l ∧ e 1 = I64 foot ∧ e 6 = .sl ((lacksL l).map fun (i : Nat) => I64 i) .unk ∧ e 7 = I64 (lacksE l) ∧ e 8 = .bool a.2.2.1 ∧ e 9 = .bool a.2.2.2 ∧ e 10 = I64 a.1 ∧ l.drop a.1 = a.2.1 ∧ a.1 ≤ l.length ∧ m = ⟨[], []⟩ ∧
        ((a.2.2.1 || a.2.1.any fun r => footK r foot == 1) = l.any fun r => footK r foot == 1) ∧ ((a.2.2.2 || a.2.1.any fun r => footE r foot == 3) = l.any fun r => footE r foot == 3)) (fun a => l.length - a.1) (0, l, false, false) ?_ ?_
      · simp only [go_sem, Nat.reduceEqDiff, Nat.reduceAdd, Nat.reduceLT, Nat.reduceLeDiff, reduceIte, and_self, decide_true, decide_false, beq_self_eq_true, g0, g1]
        exact ⟨trivial, trivial, trivial, trivial, trivial, trivial, rfl, trivial, by omega, trivial⟩
      · rintro ⟨k, r, here, none⟩ e m ⟨g0, g1, g6, g7, g8, g9, g10, hd, hk, rfl, hhere, hnone⟩
        dsimp only at g8 g9 g10 hd hk hhere hnone
        rcases r with _ | ⟨x, r⟩
        · have hk' := drop_nil hd
          simp only [List.any_nil, Bool.or_false] at hhere hnone
          have hE : ∀ r ∈ l, footE r foot = if TL r = [] then 3 else 0 := by
            intro r hr
            have h0 := (ready_spec (hready r hr)).2.1
            unfold footE wholeE
            rw [if_pos h0, if_pos ⟨hf0, Int.le_refl _, by rw [hsame r hr]; exact hf1⟩, err_cases h0]
          cases none
          case true =>
            have hex : ∃ r ∈ l, TL r = [] := by
              obtain ⟨r, hr, h3⟩ := List.any_eq_true.1 hnone.symm
              refine ⟨r, hr, ?_⟩
              rw [hE r hr] at h3
              by_cases h : TL r = []
              · exact h
              · rw [if_neg h] at h3; cases h3
            have he3 : lacksE l = 3 := by
              obtain ⟨r, hr, h⟩ := hex
              have hf : firstE l = 0 := firstE_zero fun r h => (ready_spec (hready r h)).2.1
              have hs' : sameL l = true := by
                unfold sameL; rw [hq]
                simp only [decide_eq_true h4, Bool.true_and, Bool.not_eq_true', List.any_eq_false]
                intro r h; simp [hsame r h]
              have hno : noneL l = true := by
                unfold noneL; rw [List.any_eq_true]; exact ⟨r, hr, by rw [h]; rfl⟩
              unfold lacksE; rw [if_pos hf, if_pos hs', if_pos hno]
            simp only [go_sem, Nat.reduceEqDiff, Nat.reduceAdd, Nat.reduceLT, Nat.reduceLeDiff, reduceIte, and_self, decide_true, decide_false, beq_self_eq_true, g0, g1, g6, g7, g8, g9, g10, List.length_map, dec_ge hk', he3, WB15, WVH_eq works_ok, true_and]
          case false =>
            have hne : ∀ r ∈ l, TL r ≠ [] := by
              intro r hr h
              have := List.any_eq_false.1 hnone.symm r hr
              rw [hE r hr, if_pos h] at this
              exact this rfl
            obtain ⟨he0, hmem⟩ := lacks_mem hq h4 hready hsame hne
            obtain ⟨he1, hmem1⟩ := lacks_mem (l := [q]) (q := q) rfl (by simp) (fun r hr => by rw [List.mem_singleton.1 hr]; exact hq1) (fun r hr => by rw [List.mem_singleton.1 hr]) (fun r hr => by rw [List.mem_singleton.1 hr]; exact hne q hqm)
            have hhere' : decide (foot.toNat ∈ lacksL l) = !here := by
              rw [hhere, Bool.eq_iff_iff, decide_eq_true_iff, hmem, Bool.not_eq_true', List.any_eq_false]
              constructor
              · rintro ⟨_, h⟩ r hr hk1
                obtain ⟨t, ht, hb⟩ := h r hr
                have := ((foot_here (hready r hr) hf0 (by rw [hsame r hr]; exact hf1) (hne r hr)).2.1 (by simpa using hk1)) t ht
                rw [hb] at this; cases this
              · intro h
                refine ⟨by omega, fun r hr => ?_⟩
                have hnk := h r hr
                refine Classical.byContradiction fun hno => hnk ?_
                have : footK r foot = 1 := (foot_here (hready r hr) hf0 (by rw [hsame r hr]; exact hf1) (hne r hr)).2.2 fun t ht => by
                  cases hb : t.testBit foot.toNat
                  · exact absurd ⟨t, ht, hb⟩ hno
                  · rfl
                simp [this]
            have hfew : foot.toNat ∈ lacksL l → foot.toNat ∈ lacksL [q] := by
              rw [hmem, hmem1]
              rintro ⟨h1, h2⟩
              exact ⟨h1, fun r hr => by rw [List.mem_singleton.1 hr]; exact h2 q hqm⟩
            have hlen1 : (lacksL [q]).length < 1000000 := by
              have := lacksL_len [q]
              have := feet0_le (l := [q]) (fun r hr => by rw [List.mem_singleton.1 hr]; exact hq1)
              omega
            have hhas1 := hasN_ok (lacksL [q]) foot hf0 hlen1
            have ht1 : List.take 1 (l.map encR) = [encR q] := by
              cases l with
              | nil => simp at h1
              | cons a l => simp at hq; subst hq; rfl
            have hsz : hdSz (l.map encR) 2 = true := hdSz_map' encR 2 l fun _ => rfl
            have hL1 : RV ft 37 [.sl [encR q] .unk] (.tup [.sl ((lacksL [q]).map fun (i : Nat) => I64 i) .unk, I64 (lacksE [q])]) := Lacks_ok [q] (by simp) (fun r hr => by rw [List.mem_singleton.1 hr]; exact hnear q hqm)
            have hb1 : decide ((0 : Int) ≤ 0 ∧ (0 : Int) ≤ 1 ∧ (1 : Int) ≤ (l.length : Int)) = true := decide_eq_true ⟨by omega, by omega, by omega⟩
            simp only [go_sem, Nat.reduceEqDiff, Nat.reduceAdd, Nat.reduceLT, Nat.reduceLeDiff, reduceIte, and_self, decide_true, decide_false, beq_self_eq_true, g0, g1, g6, g7, g8, g9, g10, List.length_map, dec_ge hk', he0, WB50, WVH_eq hhas, sn_nats, hhere', true_and, hot_nats, show ((0 : Int) != 0) = false from rfl]
            cases here
            case true =>
              simp only [go_sem, Nat.reduceEqDiff, Nat.reduceAdd, Nat.reduceLT, Nat.reduceLeDiff, reduceIte, and_self, decide_true, decide_false, beq_self_eq_true, g0, g1, g6, g7, g8, g9, g10, WB50, WVH_eq hhas, WVH_eq hhas1, sn_nats, hhere', true_and, hot_nats, show ((0 : Int) != 0) = false from rfl, Bool.not_true, Bool.not_false, show (true == false) = false from rfl, show (false == true) = false from rfl, hsz, hb1, ht1, List.length_map, Int.toNat_zero, show Int.toNat 1 = 1 from rfl, List.drop_zero, Nat.sub_zero, WB37, WVH_eq hL1, sn_ms, hot_ms, he1, WB15, WVH_eq works_ok, show ((0 : Int) == 0) = true from rfl, Bool.false_eq_true]
            case false =>
              have hmt : decide (foot.toNat ∈ lacksL [q]) = true := decide_eq_true (hfew (of_decide_eq_true hhere'))
              simp only [go_sem, Nat.reduceEqDiff, Nat.reduceAdd, Nat.reduceLT, Nat.reduceLeDiff, reduceIte, and_self, decide_true, decide_false, beq_self_eq_true, g0, g1, g6, g7, g8, g9, g10, WB50, WVH_eq hhas, WVH_eq hhas1, sn_nats, hhere', true_and, hot_nats, show ((0 : Int) != 0) = false from rfl, Bool.not_true, Bool.not_false, show (true == false) = false from rfl, show (false == true) = false from rfl, hsz, hb1, ht1, List.length_map, Int.toNat_zero, show Int.toNat 1 = 1 from rfl, List.drop_zero, Nat.sub_zero, WB37, WVH_eq hL1, sn_ms, hot_ms, he1, WB15, WVH_eq works_ok, show ((0 : Int) == 0) = true from rfl, Bool.false_eq_true, hmt]
        · obtain ⟨hg, hd', hlt⟩ := drop_cons hd
          have hxm := List.mem_of_getElem? hg
          have hxr := hready x hxm
          obtain ⟨hxn, hx0, hxo⟩ := ready_spec hxr
          have hxe : footE x foot = if TL x = [] then 3 else 0 := by
            unfold footE wholeE
            rw [if_pos hx0, if_pos ⟨hf0, Int.le_refl _, by rw [hsame x hxm]; exact hf1⟩, err_cases hx0]
          have hw : IntKind.i64.wrap ((k : Int) + 1) = ((k + 1 : Nat) : Int) := by rw [wrap_i64 _ (by omega) (by omega)]; rfl
          have hbad : (footE x foot != 0 && footE x foot != 3) = false := by rw [hxe]; split <;> rfl
          simp only [go_sem, Nat.reduceEqDiff, Nat.reduceAdd, Nat.reduceLT, Nat.reduceLeDiff, reduceIte, and_self, decide_true, decide_false, beq_self_eq_true, g0, g1, g6, g7, g8, g9, g10, List.length_map, dec_lt hlt, dec_nn, Int.toNat_natCast, List.getElem?_map, hg, sn_ms, WB29, WVH_eq (Foot_ok x hxn foot), true_and, hot_ms]
          have e3n : (footE x foot != 3) = !(footE x foot == 3) := rfl
          obtain ⟨here', hh⟩ : ∃ h, h = (here || footK x foot == 1) := ⟨_, rfl⟩
          obtain ⟨none', hno⟩ : ∃ h, h = (none || footE x foot == 3) := ⟨_, rfl⟩
          rw [List.any_cons, ← Bool.or_assoc, ← hh] at hhere
          rw [List.any_cons, ← Bool.or_assoc, ← hno] at hnone
          cases e0 : (footE x foot != 0) <;> cases e3 : (footE x foot == 3) <;> cases k1 : (footK x foot == 1) <;> cases here <;> cases none
          all_goals
            first
              | (exfalso; rw [e0, e3n, e3] at hbad; simp at hbad; done)
              | (
                  simp only [k1, e3, Bool.or_false, Bool.or_true, Bool.false_or, Bool.true_or, Bool.or_self] at hh hno
                  simp only [go_sem, Nat.reduceEqDiff, Nat.reduceAdd, Nat.reduceLT, Nat.reduceLeDiff, reduceIte, and_self, decide_true, decide_false, beq_self_eq_true, g0, g1, g6, g7, g8, g9, g10, e0, e3n, e3, k1, hw, Bool.not_true, Bool.not_false]
                  refine Nx_of (k + 1, r, here', none') (by show l.length - (k + 1) < l.length - k; omega) ?_
                  simp only [go_sem, Nat.reduceEqDiff, Nat.reduceAdd, Nat.reduceLT, Nat.reduceLeDiff, reduceIte, and_self, decide_true, decide_false, beq_self_eq_true, g0, g1, g6, g7]
                  exact ⟨trivial, trivial, trivial, trivial, by rw [hh], by rw [hno], trivial, hd', by omega, trivial, hhere, hnone⟩)
    · obtain ⟨hg, hd', hlt⟩ := drop_cons hd
      have hw : IntKind.i64.wrap ((k : Int) + 1) = ((k + 1 : Nat) : Int) := by rw [wrap_i64 _ (by omega) (by omega)]; rfl
      have hq0 : (l.map encR)[0]? = some (encR q) := by rw [List.getElem?_map, hq]; rfl
      simp only [go_sem, Nat.reduceEqDiff, Nat.reduceAdd, Nat.reduceLT, Nat.reduceLeDiff, reduceIte, and_self, decide_true, decide_false, beq_self_eq_true, g0, g1, g5, List.length_map, dec_lt hlt, dec_nn, Int.toNat_natCast, List.getElem?_map, hg, sn_ms, WB40, WVH_eq (ready_ok x), true_and, hot_ms]
      cases b1 : readyR x
      case false => simp only [go_sem, Nat.reduceEqDiff, Nat.reduceAdd, Nat.reduceLT, Nat.reduceLeDiff, reduceIte, and_self, decide_true, decide_false, beq_self_eq_true, WB15, WVH_eq works_ok, true_and]
      cases b2 : (x.feet != q.feet)
      case true => simp only [go_sem, Nat.reduceEqDiff, Nat.reduceAdd, Nat.reduceLT, Nat.reduceLeDiff, reduceIte, and_self, decide_true, decide_false, beq_self_eq_true, g0, g1, g5, List.length_map, dec_nn, Int.toNat_natCast, List.getElem?_map, hg, show decide ((0 : Int) ≤ 0) = true from rfl, Int.toNat_zero, hq, b2, WB15, WVH_eq works_ok, true_and]
      cases b3 : decide (foot < 0)
      case true => simp only [go_sem, Nat.reduceEqDiff, Nat.reduceAdd, Nat.reduceLT, Nat.reduceLeDiff, reduceIte, and_self, decide_true, decide_false, beq_self_eq_true, g0, g1, g5, List.length_map, dec_nn, Int.toNat_natCast, List.getElem?_map, hg, show decide ((0 : Int) ≤ 0) = true from rfl, Int.toNat_zero, hq, b2, b3, WB15, WVH_eq works_ok, true_and]
      cases b4 : decide (q.feet ≤ foot)
      case true => simp only [go_sem, Nat.reduceEqDiff, Nat.reduceAdd, Nat.reduceLT, Nat.reduceLeDiff, reduceIte, and_self, decide_true, decide_false, beq_self_eq_true, g0, g1, g5, List.length_map, dec_nn, Int.toNat_natCast, List.getElem?_map, hg, show decide ((0 : Int) ≤ 0) = true from rfl, Int.toNat_zero, hq, b2, b3, b4, WB15, WVH_eq works_ok, true_and]
      simp only [go_sem, Nat.reduceEqDiff, Nat.reduceAdd, Nat.reduceLT, Nat.reduceLeDiff, reduceIte, and_self, decide_true, decide_false, beq_self_eq_true, g0, g1, g5, List.length_map, dec_nn, Int.toNat_natCast, List.getElem?_map, hg, show decide ((0 : Int) ≤ 0) = true from rfl, Int.toNat_zero, hq, b2, b3, b4, hw]
      refine Nx_of (k + 1, r) (by simp; omega) ?_
      simp only [go_sem, Nat.reduceEqDiff, Nat.reduceAdd, Nat.reduceLT, Nat.reduceLeDiff, reduceIte, and_self, decide_true, decide_false, beq_self_eq_true, g0, g1]
      refine ⟨trivial, trivial, trivial, hd', by omega, trivial, fun h => hall fun y hy => ?_⟩
      rcases List.mem_cons.1 hy with rfl | hy
      · have := of_decide_eq_false b3
        have := of_decide_eq_false b4
        exact ⟨b1, by simpa using b2, by omega, by omega⟩
      · exact h y hy
end Go.Ab.T
end
