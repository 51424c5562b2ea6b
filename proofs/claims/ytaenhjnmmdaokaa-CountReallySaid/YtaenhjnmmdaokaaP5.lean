/-
  A part of the proofs over this seat.
  (The texts KcK7 KcK8 KcK9 KcK10, one behind the other.)
-/
import Derived.Test.YtaenhjnmmdaokaaP3
import Derived.Test.YtaenhjnmmdaokaaA0
set_option linter.unusedSimpArgs false
set_option linter.unusedVariables false
set_option linter.unusedSectionVars false
section
namespace Go.Ab.T
set_option maxRecDepth 8000
set_option maxHeartbeats 4000000
theorem eqV (a b : V3) : eqAV true [.i, .i, .i] (encV a) (encV b) = some (decide (a = b)) := by
  show some ((a.x == b.x) && ((a.y == b.y) && ((a.z == b.z) && true))) = _
  congr 1
  rw [Bool.eq_iff_iff]
  simp only [Bool.and_eq_true, beq_iff_eq, and_true, decide_eq_true_eq]
  exact ⟨fun ⟨h1, h2, h3⟩ => V3.ext' h1 h2 h3, fun h => by subst h; exact ⟨rfl, rfl, rfl⟩⟩
theorem get_l2 {α : Type} (l : List α) (a b : α) : (l ++ [a] ++ [b])[l.length]? = some a := by simp
theorem get_l2' {α : Type} (l : List α) (a b : α) : (l ++ [a] ++ [b])[l.length + 1]? = some b := by simp
theorem set_l2 {α : Type} (l : List α) (a b c : α) : (l ++ [a] ++ [b]).set l.length c = l ++ [c] ++ [b] := by simp
theorem set_l2' {α : Type} (l : List α) (a b c : α) : (l ++ [a] ++ [b]).set (l.length + 1) c = l ++ [a] ++ [c] := by simp
attribute [go_sem] eqV get_l2 get_l2' set_l2 set_l2'
theorem fillCh (t : V3) (m : Int) : fillParts [I64 0, I64 0, I64 0, I64 0, I64 0] [(0, 3, encV t), (4, 1, I64 m)] = some [I64 t.x, I64 t.y, I64 t.z, I64 0, I64 m] := rfl
theorem choicesOf_ok {n : Nat} (h1 : 1 ≤ n) (h3 : n ≤ 3) {c : Ctr} (hc : CO n c) {s p : V3} (hs : s.bd 100) (hp : p.pos) : RV ft 75 [encC c, encV s, encV p] (encChs (chs p s c)) := by
  refine RV_of ft75 rfl ?_
  simp only [c75, r75]
  have hlen := hc.len
  have hro := hc.ro
  have hsl := spl_len (roll c) s (by omega) hs
  simp only [go_sem, Nat.reduceEqDiff, Nat.reduceAdd, Nat.reduceLT, Nat.reduceLeDiff, reduceIte, WB68, WVH_eq (tick_ok (l := c.so) (by omega) (by omega)), true_and, WB70, WVH_eq (roll_ok hc.s), WB89, WVH_eq (splits_ok hro.1 (by omega) hs)]
  refine WL_inv (α := Nat × List V3 × List V3 × AV) (fun q e mm => e 3 = .ptr 0 0 0 ∧ e 4 = .ptr 1 0 0 ∧ e 5 = .ptr 2 0 0 ∧ e 7 = .ptr 3 0 0 ∧ e 8 = q.2.2.2 ∧ e 18 = encVs (spl (roll c) s) ∧ e 19 = I64 (spl (roll c) s).length ∧ e 20 = I64 q.1 ∧ (spl (roll c) s).drop q.1 = q.2.1 ∧ q.2.2.1 ++ q.2.1 = spl (roll c) s ∧
    ∃ bl toks, Acc 72 ((q.2.2.1.map (mkc p c)).map encCh) q.2.2.2 toks ∧ mm = ⟨.live [encC c] 6 :: .live [encV s] 3 :: .live [encV p] 3 :: .live [encV (toV c.so)] 3 :: bl, toks⟩) (fun q => q.2.1.length) (0, spl (roll c) s, [], .sl [] .tight) ?_ ?_
  · simp only [go_sem, Nat.reduceEqDiff, Nat.reduceAdd, Nat.reduceLT, Nat.reduceLeDiff, reduceIte]
    exact ⟨trivial, trivial, trivial, trivial, trivial, trivial, trivial, rfl, trivial, trivial, [], [], Acc_nil 72, rfl⟩
  rintro ⟨k, r, D, A⟩ e m ⟨g3, g4, g5, g7, g8, g18, g19, g20, hd, hq, bl, toks, hA, rfl⟩
  dsimp only at g8 g20 hd hq hA
  obtain ⟨a1, a2, a3⟩ := hA.cells
  cases r with
  | nil =>
    have h4 := drop_nil hd
    rw [List.append_nil] at hq
    simp only [go_sem, Nat.reduceEqDiff, Nat.reduceAdd, Nat.reduceLT, Nat.reduceLeDiff, reduceIte, g3, g4, g5, g7, g8, g18, g19, g20, dec_ge h4]
    rw [hA.snap, hq]
    unfold chs encChs
    rw [List.map_map, List.map_map, List.map_map]
    rfl
  | cons t r =>
    obtain ⟨hk, hd2, hlt⟩ := drop_cons hd
    have ht := mem_spl.1 (List.mem_of_getElem? hk)
    have htb : t.bd 1000 := by
      simp only [V3.nn, V3.le, V3.bd] at ht hs ⊢
      omega
    have hM := missing_ok hc.fl hc.ca htb hp
    have hDl : D.length ≤ 10000000 := by
      have := congrArg List.length hq
      rw [List.length_append] at this
      omega
    have hsz : ∀ e ∈ (D.map (mkc p c)).map encCh, e.cells.length = 5 := cellsChs _
    have hlim : (((D.map (mkc p c)).map encCh).length + 1) * (40 + 1) ≤ limit := by rw [List.length_map, List.length_map]; unfold limit; omega
    have z1 : (I64 t.x, I64 t.y, I64 t.z) = (I64 t.x, I64 t.y, I64 t.z) := rfl
    have w1 : writeCells (.agg [I64 t.x, I64 t.y, I64 t.z, I64 0, I64 (miss p c t)]) 3 [I64 1] = some (.agg [I64 t.x, I64 t.y, I64 t.z, I64 1, I64 (miss p c t)]) := rfl
    have w2 : writeCells (.agg [I64 t.x, I64 t.y, I64 t.z, I64 1, I64 (miss p c t)]) 3 [I64 2] = some (.agg [I64 t.x, I64 t.y, I64 t.z, I64 2, I64 (miss p c t)]) := rfl
    have x1 : IntKind.i64.wrap (0 + 1) = 1 := by decide
    have x2 : IntKind.i64.wrap (1 + 1) = 2 := by decide
    have fin : ∀ (f : Int) (y : AV) (bl' : List Blk), f = flw p c t → y = encCh (mkc p c t) → ∀ (K : AV × Mem → Prop), (∀ v' toks', Acc 72 (((D ++ [t]).map (mkc p c)).map encCh) v' toks' → K (v', ⟨bl', toks'⟩)) → @OptH _ (appendAt ⟨bl', toks⟩ false A (.sl [y] .tight) 72 5 40) ⟨K⟩ := by
      intro f y bl' hf hy K hK
      subst hy
      refine hA.app hsz rfl hlim fun v' toks' hv => hK v' toks' ?_
      simpa using hv
    cases he : decide (t = toV c.so) <;> cases hm : (miss p c t != 0)
    all_goals
      have hfl : flw p c t = (if t = toV c.so then 0 else 1) + (if miss p c t = 0 then 0 else 1) := rfl
      have he' := he
      have hm' := hm
      first | (have he2 := of_decide_eq_true he; rw [if_pos he2] at hfl) | (have he2 := of_decide_eq_false he; rw [if_neg he2] at hfl)
      first | (have hm2 : miss p c t = 0 := (by simpa using hm); rw [if_pos hm2] at hfl) | (have hm2 : ¬miss p c t = 0 := (by simpa using hm); rw [if_neg hm2] at hfl)
      simp only [go_sem, Nat.reduceEqDiff, Nat.reduceAdd, Nat.reduceLT, Nat.reduceLeDiff, reduceIte, g3, g4, g5, g7, g8, g18, g19, g20, dec_lt hlt, Vs_idx hk, WB71, WVH_eq hM, true_and, fillCh, he, hm, w1, w2, x1, x2, Bool.not_true, Bool.not_false]
      refine fin _ _ _ rfl ?_ _ fun A' toks' hA' => ?_
      · unfold encCh mkc; rw [hfl]; rfl
      simp only [go_sem, Nat.reduceEqDiff, Nat.reduceAdd, Nat.reduceLT, Nat.reduceLeDiff, reduceIte, g3, g4, g5, g7, g18, g19, g20, wrap_n1 k (by omega)]
      refine Nx_of (k + 1, r, D ++ [t], A') (by simp) ?_
      simp only [go_sem, Nat.reduceEqDiff, Nat.reduceAdd, Nat.reduceLT, Nat.reduceLeDiff, reduceIte, g3, g4, g5, g7, g18, g19]
      exact ⟨trivial, trivial, trivial, trivial, trivial, trivial, trivial, trivial, hd2, by rw [List.append_assoc]; exact hq, _, toks', hA', rfl⟩
end Go.Ab.T
end

section
namespace Go.Ab.T
set_option maxRecDepth 8000
set_option maxHeartbeats 4000000
/-! ### The map of ways -/
def kvW (p : V3 × Int) : AV × AV := (encV p.1, I64 p.2)
def encW (w : WM) : List (AV × AV) := w.map kvW
theorem keqV (a b : V3) : keq (.n 3) (encV a) (encV b) = some (decide (a = b)) := eqV a b
theorem isKeyV (t : V3) : isKey (.n 3) (encV t) = true := rfl
theorem sameN3 : EK.same (.n 3) (.n 3) = true := rfl
theorem kltV (a b : V3) : klt (encV a) (encV b) = a.lt b := by
  show (decide (a.x < b.x) || (a.x == b.x && (decide (a.y < b.y) || (a.y == b.y && (decide (a.z < b.z) || (a.z == b.z && false)))))) = _
  rw [Bool.and_false, Bool.or_false]; rfl
theorem aloneW {w : WM} {k : V3} (h : ∀ p ∈ w, k ≠ p.1) : EK.alone (encV k) (encW w) (.n 3) = true := by
  show (encW w).all (fun q => keq (.n 3) (encV k) q.1 == some false) = true
  rw [List.all_eq_true]
  intro q hq
  obtain ⟨p, hp, rfl⟩ := List.mem_map.1 hq
  show (keq (.n 3) (encV k) (encV p.1) == some false) = true
  rw [keqV, decide_eq_false (h p hp)]; rfl
theorem mfindW : ∀ {w : WM}, Srt w → ∀ (k : V3) (i : Nat), ∃ r, mfind (.n 3) (encV k) (encW w) i = some r ∧ (match r with
    | none => lk w k = none ∧ ∀ m, mins (encV k) (I64 m) (encW w) = encW (wput k m w)
    | some (j, v) => i ≤ j ∧ (∃ m, lk w k = some m ∧ v = I64 m) ∧ ∀ m, (encW w).set (j - i) (encV k, I64 m) = encW (wput k m w))
  | [], _, k, i => ⟨none, rfl, rfl, fun _ => rfl⟩
  | p :: r, hs, k, i => by
    obtain ⟨h1, h2⟩ := List.pairwise_cons.1 hs
    by_cases h : k = p.1
    · have ha : EK.alone (encV k) (encW r) (.n 3) = true := aloneW fun q hq e => by
        have := h1 q hq
        rw [← e, ← h, V3.lt_irrefl] at this; cases this
      refine ⟨some (i, I64 p.2), ?_, Nat.le_refl _, ⟨p.2, by simp only [lk, if_pos h], rfl⟩, fun m => ?_⟩
      · show (match keq (.n 3) (encV k) (encV p.1) with | some true => if EK.alone (encV k) (encW r) (.n 3) = true then some (some (i, I64 p.2)) else none | some false => mfind (.n 3) (encV k) (encW r) (i + 1) | none => none) = _
        rw [keqV, decide_eq_true h]
        simp only [ha, if_true]
      · rw [Nat.sub_self]
        simp only [wput, if_pos h]
        rfl
    · obtain ⟨q, h3, h4⟩ := mfindW h2 k (i + 1)
      refine ⟨q, ?_, ?_⟩
      · show (match keq (.n 3) (encV k) (encV p.1) with | some true => if EK.alone (encV k) (encW r) (.n 3) = true then some (some (i, I64 p.2)) else none | some false => mfind (.n 3) (encV k) (encW r) (i + 1) | none => none) = _
        rw [keqV, decide_eq_false h]
        exact h3
      · cases q with
        | none =>
          refine ⟨by simp only [lk, if_neg h]; exact h4.1, fun m => ?_⟩
          show (if klt (encV k) (encV p.1) = true then (encV k, I64 m) :: kvW p :: encW r else kvW p :: mins (encV k) (I64 m) (encW r)) = _
          rw [kltV, h4.2 m]
          simp only [wput, if_neg h]
          split <;> rfl
        | some jv =>
          obtain ⟨j, v⟩ := jv
          obtain ⟨h5, ⟨m, h6, h7⟩, h8⟩ := h4
          refine ⟨by omega, ⟨m, by simp only [lk, if_neg h]; exact h6, h7⟩, fun m' => ?_⟩
          have hlt : k.lt p.1 = false := by
            cases hc : k.lt p.1 with
            | false => rfl
            | true =>
              have := V3.lt_trans hc (h1 _ (lk_mem h6))
              simp only [V3.lt_irrefl] at this; cases this
          rw [show j - i = (j - (i + 1)) + 1 by omega]
          show kvW p :: (encW r).set (j - (i + 1)) (encV k, I64 m') = _
          rw [h8 m']
          simp only [wput, if_neg h, hlt, Bool.false_eq_true, if_false]
          rfl
theorem mgetW {w : WM} (hs : Srt w) (k : V3) : mgetL (.n 3) (I64 0) true (encW w) (encV k) = some (.tup [I64 ((lk w k).getD 0), .bool (lk w k).isSome]) := by
  obtain ⟨r, h1, h2⟩ := mfindW hs k 0
  unfold mgetL
  rw [h1]
  cases r with
  | none => simp [h2.1]
  | some q => obtain ⟨j, v⟩ := q; obtain ⟨_, ⟨m, h3, rfl⟩, _⟩ := h2; simp [h3]
theorem mputW {w : WM} (hs : Srt w) (k : V3) (m : Int) : mputL (.n 3) (encW w) (encV k) (I64 m) = some (encW (wput k m w)) := by
  obtain ⟨r, h1, h2⟩ := mfindW hs k 0
  unfold mputL
  rw [h1]
  cases r with
  | none => simp only [Option.map_some]; exact congrArg some (h2.2 m)
  | some q => obtain ⟨j, v⟩ := q; simp only [Option.map_some]; exact congrArg some (h2.2.2 m)
theorem set_same' {α : Type} {l : List α} {i : Nat} {x : α} (h : l[i]? = some x) : l.set i x = l := by
  refine List.ext_getElem? fun j => ?_
  rw [List.getElem?_set]
  split
  · rename_i e
    subst e
    rw [if_pos (List.getElem?_eq_some_iff.1 h).1, h]
  · rfl
theorem getA {α : Type} {l : List α} {i : Nat} {x : α} (h : l[i]? = some x) (y : List α) : (l ++ y)[i]? = some x := by
  rw [List.getElem?_append_left (List.getElem?_eq_some_iff.1 h).1]; exact h
theorem setA {α : Type} {l : List α} {i : Nat} {x : α} (h : l[i]? = some x) (y : List α) (z : α) : (l ++ y).set i z = l.set i z ++ y := List.set_append_left _ _ (List.getElem?_eq_some_iff.1 h).1
/-- keep. -/
theorem keep_W {w : WM} (hs : Srt w) (k : V3) (m : Int) {bl : List Blk} {tk : List (Nat × Nat)} {a b : Nat} (hb : bl[b]? = some (.live [.mp a] 1)) (ha : bl[a]? = some (.mp (encW w) (.n 3))) {K : AV → Mem → Prop}
    (hK : K (.tup []) ⟨bl.set a (.mp (encW (wmin k m w)) (.n 3)) ++ [.live [encV k] 3], tk⟩) : WR ft (.f 98) [encV k, I64 m, .ptr b 0 0] ⟨bl, tk⟩ K := by
  rw [WR_f ft98 rfl]
  simp only [c98, r98]
  have hb' := getA hb [Blk.live [encV k] 3]
  have ha' := getA ha [Blk.live [encV k] 3]
  have hst := fun z => setA ha [Blk.live [encV k] 3] z
  have hsm : bl.set a (.mp (encW w) (.n 3)) = bl := set_same' ha
  unfold wmin at hK
  cases hl : lk w k with
  | none =>
    rw [hl] at hK
    simp only [go_sem, Nat.reduceEqDiff, Nat.reduceAdd, Nat.reduceLT, Nat.reduceLeDiff, reduceIte, hb', ha', sameN3, isKeyV, mgetW hs, hl, Option.getD_none, Option.isSome_none, Bool.not_false, mputW hs, hst]
    exact hK
  | some n =>
    rw [hl] at hK
    cases hm : decide (m < n)
    · have hm' := of_decide_eq_false hm
      dsimp only at hK
      rw [if_neg hm', hsm] at hK
      simp only [go_sem, Nat.reduceEqDiff, Nat.reduceAdd, Nat.reduceLT, Nat.reduceLeDiff, reduceIte, hb', ha', sameN3, isKeyV, mgetW hs, hl, Option.getD_some, Option.isSome_some, Bool.not_true, hm]
      exact hK
    · have hm' := of_decide_eq_true hm
      dsimp only at hK
      rw [if_pos hm'] at hK
      simp only [go_sem, Nat.reduceEqDiff, Nat.reduceAdd, Nat.reduceLT, Nat.reduceLeDiff, reduceIte, hb', ha', sameN3, isKeyV, mgetW hs, hl, Option.getD_some, Option.isSome_some, Bool.not_true, hm, mputW hs, hst]
      exact hK
end Go.Ab.T
end

section
namespace Go.Ab.T
set_option maxRecDepth 8000
set_option maxHeartbeats 4000000
theorem wcNilm (v : AV) : writeCells .nilm 0 [v] = some v := rfl
theorem perm_map {α β : Type} (f : α → β) : ∀ (l : List α) (π : List β), π.Perm (l.map f) → ∃ l' : List α, l'.Perm l ∧ π = l'.map f
  | [], π, h => ⟨[], List.Perm.refl _, by simpa using h⟩
  | a :: l, π, h => by
    obtain ⟨p, q, rfl⟩ := List.append_of_mem (h.mem_iff.2 (by simp : f a ∈ (a :: l).map f))
    have h2 : (p ++ q).Perm (l.map f) := (List.perm_cons (f a)).1 (List.perm_middle.symm.trans h)
    obtain ⟨l', h3, h4⟩ := perm_map f l (p ++ q) h2
    obtain ⟨p', q', rfl, rfl, rfl⟩ := List.map_eq_append_iff.1 h4.symm
    exact ⟨p' ++ a :: q', List.perm_middle.trans (h3.cons a), by simp⟩
def fgL : List Nat := [14, 15, 16, 17, 7, 8, 10, 18, 19, 20, 21, 22, 23, 24, 25, 26, 27, 28, 29, 30, 31, 32, 33, 34, 35, 36]
theorem upd_fg {e : Nat → AV} {t s : Nat} {v : AV} (ht : fgL.contains t = false) (hs : fgL.contains s = true) : upd e s v t = e t := by
  refine upd_ne _ _ _ _ (eq_false fun h => ?_)
  subst h
  rw [ht] at hs; cases hs
theorem with1_srt {acc : WM} (h : Srt acc) (p : V3 × Int) : ∀ L : List Ch, Srt (with1 L acc p) := by
  intro L
  unfold with1
  induction L generalizing acc with
  | nil => exact h
  | cons c L ih => exact ih (wmin_srt h _ _)
theorem fold_srt {acc : WM} (h : Srt acc) (L : List Ch) : ∀ d : WM, Srt (d.foldl (with1 L) acc) := by
  intro d
  induction d generalizing acc with
  | nil => exact h
  | cons p d ih => exact ih (with1_srt h p L)
theorem Chs_idxT {l : List Ch} {k : Nat} {x : Ch} {tk : Tk} (h : l[k]? = some x) (m : Mem) : idxAt m (.sl (l.map encCh) tk) (I64 (k : Int)) 5 = some (.pv (encCh x) 0) := by
  rw [idxAt_sl, if_pos (by omega), Int.toNat_natCast, Chs_get, h]
  rfl
theorem Chs_lenT (l : List Ch) (tk : Tk) (m : Mem) : lenAt m (.sl (l.map encCh) tk) = some (I64 l.length) := by rw [lenAt_sl, List.length_map]
theorem ite_fg {t s : Nat} (ht : fgL.contains t = false) (hs : fgL.contains s = true) {v x y : AV} (h : x = y) : (if t = s then v else x) = y := by
  rw [if_neg fun e => ?_]
  · exact h
  · subst e; rw [ht] at hs; cases hs
structure ChB (c : Ch) : Prop where
  t : c.t.bd 1000
  f0 : 0 ≤ c.f
  f2 : c.f ≤ 2
theorem with_W {w : WM} (hs : Srt w) (hw : ∀ p ∈ w, p.1.bd 100000000 ∧ 0 ≤ p.2 ∧ p.2 ≤ 100000000) {L : List Ch} (hL : ∀ c ∈ L, ChB c) (hl : L.length ≤ 100000000) (tkL : Tk) {B : List Blk} {tk : List (Nat × Nat)} {id : Nat} (hid : B[id]? = some (.mp (encW w) (.n 3))) {K : AV → Mem → Prop}
    (hK : ∀ junk, K (.mp B.length) ⟨B ++ .mp (encW (withF w L)) (.n 3) :: junk, tk⟩) : WR ft (.f 90) [.mp id, .sl (L.map encCh) tkL] ⟨B, tk⟩ K := by
  rw [WR_f ft90 rfl]
  simp only [c90, r90]
  simp only [go_sem, Nat.reduceEqDiff, Nat.reduceAdd, Nat.reduceLT, Nat.reduceLeDiff, reduceIte, wcNilm]
  refine W_rngm ?_
  simp only [go_sem, Nat.reduceEqDiff, Nat.reduceAdd, Nat.reduceLT, Nat.reduceLeDiff, reduceIte]
  have l1 : (B ++ [Blk.mp [] (EK.n 3)]).length = B.length + 1 := by simp
  have l2 : (B ++ [Blk.mp [] (EK.n 3)] ++ [Blk.live [AV.mp B.length] 1]).length = B.length + 2 := by simp
  have hsp : B ++ [Blk.mp [] (EK.n 3)] ++ [Blk.live [AV.mp B.length] 1] = B ++ [Blk.mp [] (EK.n 3), Blk.live [AV.mp B.length] 1] := by simp
  rw [l1, l2, hsp]
  obtain ⟨e0, he0⟩ : ∃ e0, e0 = upd (upd (upd (upd (upd (upd (entry [AV.mp id, AV.sl (List.map encCh L) tkL]) 4 AV.nilm) 11 (AV.mp B.length)) 5 (AV.ptr (B.length + 1) 0 0)) 12 (AV.fn 98 [] [AV.ptr (B.length + 1) 0 0])) 6 (AV.fn 98 [] [AV.ptr (B.length + 1) 0 0])) 13 (AV.mp id) := ⟨_, rfl⟩
  rw [← he0]
  have f1 : e0 1 = AV.sl (L.map encCh) tkL := by rw [he0]; rfl
  have f5 : e0 5 = AV.ptr (B.length + 1) 0 0 := by rw [he0]; rfl
  have f6 : e0 6 = AV.fn 98 [] [AV.ptr (B.length + 1) 0 0] := by rw [he0]; rfl
  clear he0 l1 l2 hsp
  have hidl := (List.getElem?_eq_some_iff.1 hid).1
  have hLf : ∀ c ∈ L, 0 ≤ c.f := fun c hc => (hL c hc).f0
  refine ⟨id, encW w, .n 3, .nxt, ⟨fun t => if fgL.contains t = true then .undef else e0 t, ⟨B ++ .mp (encW (withF w L)) (.n 3) :: .live [.mp B.length] 1 :: List.replicate (1 + (1 + 2 * L.length) * w.length) .dead, tk⟩⟩, rfl, getA hid _, ?_, fun π hπ => ?_⟩
  · have c5 : fgL.contains 5 = false := rfl
    have hg : (B ++ Blk.mp (encW (withF w L)) (.n 3) :: Blk.live [AV.mp B.length] 1 :: List.replicate (1 + (1 + 2 * L.length) * w.length) .dead)[B.length + 1]? = some (Blk.live [AV.mp B.length] 1) := by
      rw [List.getElem?_append_right (by omega), show B.length + 1 - B.length = 1 by omega]; rfl
    simp only [go_sem, Nat.reduceEqDiff, Nat.reduceAdd, Nat.reduceLT, Nat.reduceLeDiff, reduceIte, c5, f5, hg, Bool.false_eq_true]
    exact hK _
  obtain ⟨w', hw', rfl⟩ := perm_map kvW w π hπ
  have inj : ∀ {p q : V3 × Int}, kvW p = kvW q → p = q := fun {p q} h => by
    obtain ⟨⟨a, b, c⟩, n⟩ := p
    obtain ⟨⟨a', b', c'⟩, n'⟩ := q
    simp only [kvW, encV, Prod.mk.injEq, AV.agg.injEq, List.cons.injEq, AV.int.injEq, true_and, and_true] at h
    obtain ⟨⟨rfl, rfl, rfl⟩, rfl⟩ := h
    rfl
  have injL : ∀ {a b : WM}, encW a = encW b → a = b := fun {a b} h => by
    induction a generalizing b with
    | nil => cases b with | nil => rfl | cons q b => simp [encW] at h
    | cons p a ih =>
      cases b with
      | nil => simp [encW] at h
      | cons q b =>
        simp only [encW, List.map_cons, List.cons.injEq] at h
        rw [inj h.1, ih h.2]
  refine Rw_inv (kvs := encW w') (fun dn s => ∃ d : WM, dn = encW d ∧ (∀ p ∈ d, p ∈ w) ∧ s.env 14 = .itr (B.length + 2) ∧ (∀ t, fgL.contains t = false → s.env t = e0 t) ∧ ∃ junk, junk.length = (1 + 2 * L.length) * d.length ∧
    s.mem = ⟨B.set id .dead ++ .mp (encW (d.foldl (with1 L) [])) (.n 3) :: .live [.mp B.length] 1 :: .dead :: junk, tk⟩) ?_ ?_ _ [] _ (List.Perm.refl _) ?_
  rotate_left
  · rintro dn ⟨e, m⟩ hp ⟨d, rfl, hd, h14, hE, junk, hj, hm⟩
    dsimp only at h14 hE hm
    subst hm
    refine ⟨h14, rfl, ?_⟩
    obtain ⟨d', hd', he⟩ := perm_map kvW w' _ hp
    obtain rfl := injL he
    have hdw : d.Perm w := hd'.trans hw'
    have hlen := hdw.length_eq
    have hwf : d.foldl (with1 L) [] = withF w L := withF_perm hdw (fun p hp => (hw p hp).2.1) hLf
    simp only [St.clean]
    congr 1
    · funext t
      change (if fgL.contains t = true then AV.undef else e t) = (if fgL.contains t = true then AV.undef else e0 t)
      by_cases ht : fgL.contains t = true
      · rw [if_pos ht, if_pos ht]
      · rw [if_neg ht, if_neg ht]
        exact hE t (by simpa using ht)
    · congr 1
      have ht : (B.set id Blk.dead ++ Blk.mp (encW (d.foldl (with1 L) [])) (.n 3) :: Blk.live [AV.mp B.length] 1 :: Blk.dead :: junk).take (B.length + 2) = B.set id Blk.dead ++ [Blk.mp (encW (withF w L)) (.n 3), Blk.live [AV.mp B.length] 1] := by
        rw [hwf, List.take_append, List.length_set, show B.length + 2 - B.length = 2 by omega, List.take_of_length_le (by rw [List.length_set]; omega)]; rfl
      have hdr : (B.set id Blk.dead ++ Blk.mp (encW (d.foldl (with1 L) [])) (.n 3) :: Blk.live [AV.mp B.length] 1 :: Blk.dead :: junk).drop (B.length + 2) = Blk.dead :: junk := by
        rw [List.drop_append, List.length_set, show B.length + 2 - B.length = 2 by omega, List.drop_eq_nil_of_le (by rw [List.length_set]; omega)]; rfl
      rw [ht, hdr, List.set_append_left _ _ (by rw [List.length_set]; exact hidl), List.set_set, set_same' hid, List.append_assoc]
      have hr : (Blk.dead :: junk).map (fun _ => Blk.dead) = List.replicate (1 + (1 + 2 * L.length) * w.length) Blk.dead := by
        rw [List.map_const', List.length_cons, hj, hlen, Nat.add_comm]
      rw [hr]; rfl
  · refine ⟨[], rfl, (fun p hp => nomatch hp), ?_, fun t ht => ?_, [], by simp, ?_⟩
    · show (if (14 : Nat) = 14 then AV.itr (List.length _) else if List.contains [15, 16, 17] 14 = true then AV.undef else e0 14) = _
      rw [if_pos rfl, List.length_append]; rfl
    · show (if t = 14 then AV.itr _ else if [15, 16, 17].contains t = true then AV.undef else e0 t) = _
      rw [if_neg (fun h => by subst h; cases ht), if_neg (fun h => ?_)]
      simp only [List.contains_iff_mem, List.mem_cons, List.not_mem_nil, or_false] at h
      rcases h with rfl | rfl | rfl <;> cases ht
    · show (⟨(B ++ _).set id Blk.dead ++ [Blk.dead], tk⟩ : Mem) = _
      rw [List.set_append_left _ _ hidl, List.append_assoc]; rfl
  · rintro dn p rest ⟨e, m⟩ hp ⟨d, rfl, hd, h14, hE, junk, hj, hm⟩
    dsimp only at h14 hE hm
    subst hm
    obtain ⟨q, hq, rfl⟩ := List.mem_map.1 (hp.mem_iff.1 (by simp : p ∈ encW d ++ p :: rest))
    have hqw : q ∈ w := hw'.mem_iff.1 hq
    have hqb := hw q hqw
    refine ⟨h14, ?_⟩
    have g1 : e 1 = _ := (hE 1 rfl).trans f1
    have g6 : e 6 = _ := (hE 6 rfl).trans f6
    obtain ⟨bl0, hbl0⟩ : ∃ x, x = B.set id Blk.dead ++ Blk.mp (encW (d.foldl (with1 L) [])) (.n 3) :: Blk.live [AV.mp B.length] 1 :: Blk.dead :: junk := ⟨_, rfl⟩
    rw [← hbl0]
    have hP : bl0.length = B.length + 3 + junk.length := by rw [hbl0, List.length_append, List.length_set]; simp; omega
    simp only [go_sem, Nat.reduceEqDiff, Nat.reduceAdd, Nat.reduceLT, Nat.reduceLeDiff, reduceIte, kvW, g1]
    refine WL_inv (α := Nat × List Ch × List Ch × List Blk) (fun x e' mm => (∀ t, fgL.contains t = false → e' t = e0 t) ∧ e' 14 = .itr (B.length + 2) ∧ e' 7 = .ptr bl0.length 0 0 ∧ e' 8 = I64 q.2 ∧ e' 20 = .sl (L.map encCh) tkL ∧ e' 21 = I64 L.length ∧ e' 22 = I64 x.1 ∧ L.drop x.1 = x.2.1 ∧ x.2.2.1 ++ x.2.1 = L ∧ x.2.2.1.length = x.1 ∧ x.2.2.2.length = 2 * x.1 ∧
      mm = ⟨B.set id Blk.dead ++ Blk.mp (encW (with1 x.2.2.1 (d.foldl (with1 L) []) q)) (.n 3) :: Blk.live [AV.mp B.length] 1 :: Blk.dead :: (junk ++ Blk.live [encV q.1] 3 :: x.2.2.2), tk⟩) (fun x => x.2.1.length) (0, L, [], []) ?_ ?_
    · simp only [go_sem, Nat.reduceEqDiff, Nat.reduceAdd, Nat.reduceLT, Nat.reduceLeDiff, reduceIte, h14, List.length_map]
      ((repeat' apply And.intro) <;> first | trivial | rfl | assumption | omega | (exact fun t ht => by (repeat (refine ite_fg ht rfl ?_)); exact hE t ht) | ((rw [hbl0, List.append_assoc]; rfl)))
    rintro ⟨k, r, D, j2⟩ e m ⟨gE, g14, g7, g8, g20, g21, g22, hdr, hq2, hDk, hj2, rfl⟩
    dsimp only at g22 hdr hq2 hDk hj2
    have g6' : e 6 = _ := (gE 6 rfl).trans f6
    cases r with
    | nil =>
      have h3 := drop_nil hdr
      have hkl : k = L.length := by
        rw [List.append_nil] at hq2
        rw [← hDk, hq2]
      rw [List.append_nil] at hq2
      subst hq2
      simp only [go_sem, Nat.reduceEqDiff, Nat.reduceAdd, Nat.reduceLT, Nat.reduceLeDiff, reduceIte, g20, g21, g22, dec_ge h3]
      refine ⟨d ++ [q], by simp [encW, kvW], fun p hp => ?_, g14, (fun t ht => by (repeat (refine ite_fg ht rfl ?_)); exact gE t ht), junk ++ Blk.live [encV q.1] 3 :: j2, ?_, ?_⟩
      · rcases List.mem_append.1 hp with hp | hp
        · exact hd p hp
        · rw [List.mem_singleton.1 hp]; exact hqw
      · rw [List.length_append, List.length_append, List.length_cons, List.length_singleton, hj, hj2, hkl, Nat.mul_add]; omega
      · rw [List.foldl_append]; rfl
    | cons c r =>
      obtain ⟨hk, hdr2, hlt⟩ := drop_cons hdr
      have hc := hL c (List.mem_of_getElem? hk)
      have hsrt : Srt (with1 D (d.foldl (with1 L) []) q) := with1_srt (fold_srt List.Pairwise.nil L d) q D
      obtain ⟨bl, hbl⟩ : ∃ x, x = B.set id Blk.dead ++ Blk.mp (encW (with1 D (d.foldl (with1 L) []) q)) (.n 3) :: Blk.live [AV.mp B.length] 1 :: Blk.dead :: (junk ++ Blk.live [encV q.1] 3 :: j2) := ⟨_, rfl⟩
      rw [← hbl]
      have q7 : bl[bl0.length]? = some (.live [encV q.1] 3) := by
        rw [hbl, List.getElem?_append_right (by rw [List.length_set]; omega), List.length_set, hP, show B.length + 3 + junk.length - B.length = junk.length + 3 by omega]
        show (junk ++ _ :: j2)[junk.length]? = _
        exact get_midL _ _ _
      have qb : bl[B.length + 1]? = some (.live [.mp B.length] 1) := by
        rw [hbl, List.getElem?_append_right (by rw [List.length_set]; omega), List.length_set, show B.length + 1 - B.length = 1 by omega]; rfl
      have qa : bl[B.length]? = some (.mp (encW (with1 D (d.foldl (with1 L) []) q)) (.n 3)) := by
        rw [hbl, List.getElem?_append_right (by rw [List.length_set]; omega), List.length_set, Nat.sub_self]; rfl
      have hb1 : c.t.bd 1000000000 := by have := hc.t; simp only [V3.bd] at this ⊢; omega
      have hb2 : q.1.bd 1000000000 := by have := hqb.1; simp only [V3.bd] at this ⊢; omega
      have hf0 := hc.f0
      have hf2 := hc.f2
      have q7' := getA q7 [Blk.live [encCh c] 5]
      simp only [go_sem, Nat.reduceEqDiff, Nat.reduceAdd, Nat.reduceLT, Nat.reduceLeDiff, reduceIte, g6', g7, g8, g20, g21, g22, dec_lt hlt, Chs_idxT hk, q7', WB72, WVH_eq (plus_ok hb1 hb2), true_and, wrap_i64 (q.2 + c.f) (by omega) (by omega), WB98]
      refine keep_W hsrt _ _ (getA qb _) (getA qa _) ?_
      simp only [go_sem, Nat.reduceEqDiff, Nat.reduceAdd, Nat.reduceLT, Nat.reduceLeDiff, reduceIte, g6', g7, g8, g14, g20, g21, g22, wrap_n1 k (by omega)]
      refine Nx_of (k + 1, r, D ++ [c], j2 ++ [Blk.live [encCh c] 5, Blk.live [encV (c.t.add q.1)] 3]) (by simp) ?_
      simp only [go_sem, Nat.reduceEqDiff, Nat.reduceAdd, Nat.reduceLT, Nat.reduceLeDiff, reduceIte, g7, g8, g14, g20, g21]
      have hfin : (bl ++ [Blk.live [encCh c] 5]).set B.length (.mp (encW (wmin (c.t.add q.1) (q.2 + c.f) (with1 D (d.foldl (with1 L) []) q))) (.n 3)) ++ [Blk.live [encV (c.t.add q.1)] 3] =
          B.set id Blk.dead ++ Blk.mp (encW (with1 (D ++ [c]) (d.foldl (with1 L) []) q)) (.n 3) :: Blk.live [AV.mp B.length] 1 :: Blk.dead :: (junk ++ Blk.live [encV q.1] 3 :: (j2 ++ [Blk.live [encCh c] 5, Blk.live [encV (c.t.add q.1)] 3])) := by
        rw [show with1 (D ++ [c]) (d.foldl (with1 L) []) q = wmin (c.t.add q.1) (q.2 + c.f) (with1 D (d.foldl (with1 L) []) q) by simp [with1, List.foldl_append]]
        rw [setA qa, hbl, show B.length = (B.set id Blk.dead).length by rw [List.length_set]]
        rw [set_midL]
        simp
      rw [hfin]
      ((repeat' apply And.intro) <;> first | trivial | rfl | assumption | omega | (exact fun t ht => by (repeat (refine ite_fg ht rfl ?_)); exact gE t ht) | (exact hdr2) | ((rw [List.append_assoc]; exact hq2)) | ((rw [List.length_append]; simp; omega)))
end Go.Ab.T
end

section
namespace Go.Ab.T
set_option maxRecDepth 8000
set_option maxHeartbeats 4000000
theorem RV_of_WR {f : FuncId} {as : List AV} {v : AV} (h : WR ft (.f f) as .nil fun v' m => snap m dep v' = v) : RV ft f as v := by
  obtain ⟨n, p, h1, h2⟩ := h
  exact ⟨n, by simp only [callV, h1, Option.map_some, h2]⟩
/-- A slice that is built by appending, whatever else is. -/
def AppV (T : Nat) (es : List AV) (v : AV) (toks : List (Nat × Nat)) : Prop := (es = [] ∧ v = .sl [] .tight) ∨ (es ≠ [] ∧ ∃ t, v = .sl es (.at t) ∧ toks[t]? = some (es.length, T))
/-- The tokens of other types are as they were. -/
def TkK (T : Nat) (toks toks' : List (Nat × Nat)) : Prop := ∀ (t n T' : Nat), T' ≠ T → toks[t]? = some (n, T') → toks'[t]? = some (n, T')
theorem AppV.keep {T T2 : Nat} {es : List AV} {v : AV} {toks toks' : List (Nat × Nat)} (h : AppV T es v toks) (hne : T ≠ T2) (hk : TkK T2 toks toks') : AppV T es v toks' := by
  rcases h with h | ⟨h1, t, h2, h3⟩
  · exact .inl h
  · exact .inr ⟨h1, t, h2, hk t _ _ hne h3⟩
theorem AppV.sl {T : Nat} {es : List AV} {v : AV} {toks : List (Nat × Nat)} (h : AppV T es v toks) : ∃ tk, v = .sl es tk := by
  rcases h with ⟨rfl, rfl⟩ | ⟨_, t, rfl, _⟩ <;> exact ⟨_, rfl⟩
theorem AppV.app {T : Nat} {es : List AV} {v : AV} {toks : List (Nat × Nat)} (h : AppV T es v toks) {y : AV} {tk : Tk} {sz bytes : Nat} {blks : List Blk} {K : AV × Mem → Prop}
    (hs : ∀ e ∈ es, e.cells.length = sz) (hy : y.cells.length = sz) (hl : (es.length + 1) * (bytes + 1) ≤ limit)
    (hk : ∀ v' toks', AppV T (es ++ [y]) v' toks' → TkK T toks toks' → K (v', ⟨blks, toks'⟩)) : @OptH _ (appendAt ⟨blks, toks⟩ false v (.sl [y] tk) T sz bytes) ⟨K⟩ := by
  have h1 : hdSz [y] sz = true := by simp [hdSz, hy]
  have h2 : hdSz es sz = true := by
    cases es with
    | nil => rfl
    | cons e r => simp [hdSz, hs e (by simp)]
  rcases h with ⟨rfl, rfl⟩ | ⟨hne, t, rfl, ht⟩
  · simp only [appendAt, Mem.elems, h1, h2, OptH, List.length_cons, List.length_nil, List.nil_append, appTk]
    simp only [List.length_nil] at hl
    rw [if_neg (by simp), if_pos ⟨by simpa using hl, trivial⟩]
    refine hk _ _ (.inr ⟨by simp, toks.length, rfl, by simp⟩) fun t n T' hT ht => ?_
    rw [List.getElem?_append_left (List.getElem?_eq_some_iff.1 ht).1]; exact ht
  · simp only [appendAt, Mem.elems, h1, h2, OptH, List.length_cons, List.length_nil, appTk]
    rw [if_neg (by simp), if_pos ⟨by simpa using hl, trivial⟩]
    have : es.length ≠ 0 := by simpa using hne
    simp only [Bool.false_eq_true, if_false, Nat.zero_add, Nat.succ_ne_zero]
    rw [if_pos ⟨ht, this⟩]
    have hlt := (List.getElem?_eq_some_iff.1 ht).1
    refine hk _ _ (.inr ⟨by simp, t, rfl, by simp [hlt]⟩) fun t' n T' hT ht' => ?_
    have hne' : t ≠ t' := by rintro rfl; rw [ht] at ht'; cases ht'; exact hT rfl
    rw [List.getElem?_set_ne hne']; exact ht'
theorem AppV.stay {T : Nat} {es : List AV} {v : AV} {toks toks' : List (Nat × Nat)} (h : AppV T es v toks) (hk : ∀ (t : Nat) (x : Nat × Nat), toks[t]? = some x → toks'[t]? = some x) : AppV T es v toks' := by
  rcases h with h | ⟨h1, t, h2, h3⟩
  · exact .inl h
  · exact .inr ⟨h1, t, h2, hk _ _ h3⟩
/-! ### What all tills but one can have sold -/
def othG (till : Int) : Nat → WM → List (List Ch) → WM
  | _, w, [] => w
  | k, w, L :: r => othG till (k + 1) (if ((k : Int) != till) = true then withF w L else w) r
structure WB (k : Nat) (w : WM) : Prop where
  srt : Srt w
  bd : ∀ p ∈ w, p.1.bd (1000 * k) ∧ 0 ≤ p.2 ∧ p.2 ≤ 2 * k
theorem WB.step {k : Nat} {w : WM} (h : WB k w) {L : List Ch} (hL : ∀ c ∈ L, ChB c) : WB (k + 1) (withF w L) := by
  obtain ⟨h1, h2⟩ := h
  obtain ⟨h3, h4⟩ := withF_lst (w := w) (L := L) (fun p hp => (h2 p hp).2.1) fun c hc => (hL c hc).f0
  refine ⟨h3, fun p hp => ?_⟩
  obtain ⟨⟨q, hq, c, hc, e1, e2⟩, _⟩ := (h4 p.1 p.2).1 (mem_lk h3 hp)
  have h5 := h2 q hq
  have h6 := hL c hc
  have h7 := h6.t
  have h8 := h6.f0
  have h9 := h6.f2
  rw [e1, e2]
  simp only [V3.bd, V3.add] at h5 h7 ⊢
  refine ⟨?_, ?_, ?_⟩ <;> omega
theorem WB.mono {k k' : Nat} (hk : k ≤ k') {w : WM} (h : WB k w) : WB k' w := ⟨h.1, fun p hp => by
  have := h.2 p hp
  simp only [V3.bd] at this ⊢
  omega⟩
theorem WB0 : WB 0 [(V3.zero, 0)] := ⟨List.pairwise_singleton _ _, fun p hp => by
  rw [List.mem_singleton.1 hp]
  exact ⟨⟨⟨by decide, by decide⟩, ⟨by decide, by decide⟩, ⟨by decide, by decide⟩⟩, by decide, by decide⟩⟩
theorem othG_WB (till : Int) : ∀ (r : List (List Ch)) (k j : Nat) (w : WM), WB j w → (∀ L ∈ r, ∀ c ∈ L, ChB c) → WB (j + r.length) (othG till k w r)
  | [], k, j, w, h, _ => h
  | L :: r, k, j, w, h, hL => by
    have h1 : WB (j + 1) (if ((k : Int) != till) = true then withF w L else w) := by
      split
      · exact h.step (hL L (by simp))
      · exact h.mono (Nat.le_succ _)
    have := othG_WB till r (k + 1) (j + 1) _ h1 fun M hM => hL M (by simp [hM])
    rw [List.length_cons, show j + (r.length + 1) = j + 1 + r.length by omega]
    exact this
theorem othG_eq (p s : V3) : ∀ (cs : List Ctr) (k i : Nat) (w : WM), othG ((k + i : Nat) : Int) k w (cs.map (chs p s)) = (cs.eraseIdx i).foldl (fun w c => withF w (chs p s c)) w
  | [], k, i, w => by simp [othG]
  | c :: cs, k, 0, w => by
    have go : ∀ (cs : List Ctr) (k' : Nat) (w : WM), k < k' → othG (k : Int) k' w (cs.map (chs p s)) = cs.foldl (fun w c => withF w (chs p s c)) w := by
      intro cs
      induction cs with
      | nil => intro k' w _; rfl
      | cons d cs ih =>
        intro k' w hk
        have hb : (((k' : Int)) != (k : Int)) = true := by rw [bne_iff_ne]; omega
        simp only [List.map_cons, othG, hb, if_true, List.foldl_cons]
        exact ih (k' + 1) _ (by omega)
    have hb : (((k : Int)) != ((k + 0 : Nat) : Int)) = false := by simp
    simp only [List.map_cons, othG, hb, Bool.false_eq_true, if_false, List.eraseIdx_cons_zero]
    exact go cs (k + 1) w (by omega)
  | c :: cs, k, i + 1, w => by
    have hb : (((k : Int)) != ((k + (i + 1) : Nat) : Int)) = true := by rw [bne_iff_ne]; omega
    simp only [List.map_cons, othG, hb, if_true, List.eraseIdx_cons_succ, List.foldl_cons]
    have := othG_eq p s cs (k + 1) i (withF w (chs p s c))
    rw [show k + 1 + i = k + (i + 1) by omega] at this
    exact this
/-- The tills' choices in the memory. -/
abbrev TLs := List (List Ch × Tk)
def encTL (t : TLs) : List AV := t.map fun p => .sl (p.1.map encCh) p.2
theorem encTL_get {t : TLs} {k : Nat} {p : List Ch × Tk} (h : t[k]? = some p) : (encTL t)[k]? = some (.sl (p.1.map encCh) p.2) := by unfold encTL; rw [List.getElem?_map, h]; rfl
def tAV (s : V3) (id n : Nat) : AV := .agg [I64 s.x, I64 s.y, I64 s.z, .ref id 0 n]
theorem idx_own {m : Mem} {id k n : Nat} {es : List AV} (h : m.blks[id]? = some (.live es 1)) (hk : k < n) : idxAt m (.ref id 0 n) (I64 (k : Int)) 1 = some (.ptr id k 0) := by
  show (if ((0 : Int) ≤ k ∧ (k : Int) < (n : Int)) ∧ lsz m id = some 1 then some (AV.ptr id (0 + (k : Int).toNat) 0) else none) = _
  rw [if_pos ⟨by omega, by unfold lsz; rw [h]⟩, Nat.zero_add, Int.toNat_natCast]
theorem load_own {m : Mem} {id k : Nat} {es : List AV} {v : AV} (h : m.blks[id]? = some (.live es 1)) (hv : es[k]? = some v) (hc : v.cells = [v]) : loadAt m (.ptr id k 0) none = some v := by
  simp only [loadAt, h, hv, readCells, hc]
  rfl
theorem others_W {t : TLs} (ht : ∀ p ∈ t, p.1.length ≤ 100000000 ∧ ∀ c ∈ p.1, ChB c) (hn : t.length ≤ 1000) {s : V3} {till : Int} {B : List Blk} {tk : List (Nat × Nat)} {id : Nat} (hid : B[id]? = some (.live (encTL t) 1)) {K : AV → Mem → Prop}
    (hK : ∀ id' junk, (B ++ junk)[id']? = some (.mp (encW (othG till 0 [(V3.zero, 0)] (t.map Prod.fst))) (.n 3)) → K (.mp id') ⟨B ++ junk, tk⟩) : WR ft (.f 76) [tAV s id t.length, I64 till] ⟨B, tk⟩ K := by
  rw [WR_f ft76 rfl]
  simp only [c76, r76, tAV]
  have hz : AV.agg [I64 0, I64 0, I64 0] = encV V3.zero := rfl
  have hp0 : mputL (.n 3) [] (encV V3.zero) (I64 0) = some (encW [(V3.zero, 0)]) := rfl
  have hlt := (List.getElem?_eq_some_iff.1 hid).1
  have hge : ∀ x y : Blk, (B ++ [x] ++ [y])[id]? = some (.live (encTL t) 1) := fun x y => by rw [List.append_assoc]; exact getA hid _
  simp only [go_sem, Nat.reduceEqDiff, Nat.reduceAdd, Nat.reduceLT, Nat.reduceLeDiff, reduceIte, hz, sameN3, isKeyV, hp0, get_l2', set_l2', get_l2, hge]
  refine WL_inv (α := Nat × TLs × WM × Nat × List Blk) (fun q e mm => e 1 = I64 till ∧ e 5 = .mp q.2.2.2.1 ∧ e 12 = .ref id 0 t.length ∧ e 13 = I64 t.length ∧ e 14 = I64 q.1 ∧ t.drop q.1 = q.2.1 ∧ othG till q.1 q.2.2.1 (q.2.1.map Prod.fst) = othG till 0 [(V3.zero, 0)] (t.map Prod.fst) ∧ WB q.1 q.2.2.1 ∧
    (B ++ q.2.2.2.2)[q.2.2.2.1]? = some (.mp (encW q.2.2.1) (.n 3)) ∧ mm = ⟨B ++ q.2.2.2.2, tk⟩) (fun q => q.2.1.length) (0, t, [(V3.zero, 0)], B.length + 1, [.live [tAV s id t.length] 4, .mp (encW [(V3.zero, 0)]) (.n 3)]) ?_ ?_
  · simp only [go_sem, Nat.reduceEqDiff, Nat.reduceAdd, Nat.reduceLT, Nat.reduceLeDiff, reduceIte]
    ((repeat' apply And.intro) <;> first | trivial | rfl | assumption | omega | (exact WB0) | ((rw [List.getElem?_append_right (by omega), show B.length + 1 - B.length = 1 by omega]; rfl)) | ((rw [List.append_assoc]; rfl)) | (simp))
  rintro ⟨k, r, w, iw, j⟩ e m ⟨g1, g5, g12, g13, g14, hd, hq, hwb, hm, rfl⟩
  dsimp only at g5 g14 hd hq hwb hm
  cases r with
  | nil =>
    have h3 := drop_nil hd
    simp only [go_sem, Nat.reduceEqDiff, Nat.reduceAdd, Nat.reduceLT, Nat.reduceLeDiff, reduceIte, g1, g5, g12, g13, g14, dec_ge h3]
    simp only [List.map_nil, othG] at hq
    exact hK iw j (by rw [← hq]; exact hm)
  | cons x r =>
    obtain ⟨hk, hd2, hlt2⟩ := drop_cons hd
    obtain ⟨hxl, hxc⟩ := ht x (List.mem_of_getElem? hk)
    have hix : idxAt ⟨B ++ j, tk⟩ (.ref id 0 t.length) (I64 (k : Int)) 1 = some (.ptr id k 0) := idx_own (getA hid _) hlt2
    have hlo : loadAt ⟨B ++ j, tk⟩ (.ptr id k 0) none = some (.sl (x.1.map encCh) x.2) := load_own (getA hid _) (encTL_get hk) rfl
    simp only [List.map_cons, othG] at hq
    cases hb : ((k : Int) != till)
    · rw [hb] at hq
      simp only [Bool.false_eq_true, if_false] at hq
      simp only [go_sem, Nat.reduceEqDiff, Nat.reduceAdd, Nat.reduceLT, Nat.reduceLeDiff, reduceIte, g1, g5, g12, g13, g14, dec_lt hlt2, hix, hlo, hb, wrap_n1 k (by omega)]
      refine Nx_of (k + 1, r, w, iw, j) (by simp) ?_
      simp only [go_sem, Nat.reduceEqDiff, Nat.reduceAdd, Nat.reduceLT, Nat.reduceLeDiff, reduceIte, g1, g5, g12, g13]
      ((repeat' apply And.intro) <;> first | trivial | rfl | assumption | omega | (exact hd2) | (exact hq) | (exact hwb.mono (Nat.le_succ _)) | (exact hm))
    · rw [hb] at hq
      simp only [if_true] at hq
      simp only [go_sem, Nat.reduceEqDiff, Nat.reduceAdd, Nat.reduceLT, Nat.reduceLeDiff, reduceIte, g1, g5, g12, g13, g14, dec_lt hlt2, hix, hlo, hb, WB90]
      refine with_W hwb.1 (fun p hp => ?_) hxc hxl x.2 hm fun junk => ?_
      · have := hwb.2 p hp
        simp only [V3.bd] at this ⊢
        omega
      simp only [go_sem, Nat.reduceEqDiff, Nat.reduceAdd, Nat.reduceLT, Nat.reduceLeDiff, reduceIte, g1, g5, g12, g13, g14, wrap_n1 k (by omega)]
      refine Nx_of (k + 1, r, withF w x.1, (B ++ j).length, j ++ .mp (encW (withF w x.1)) (.n 3) :: junk) (by simp) ?_
      simp only [go_sem, Nat.reduceEqDiff, Nat.reduceAdd, Nat.reduceLT, Nat.reduceLeDiff, reduceIte, g1, g12, g13]
      ((repeat' apply And.intro) <;> first | trivial | rfl | assumption | omega | (exact hd2) | (exact hq) | (exact hwb.step hxc) | ((rw [← List.append_assoc]; exact get_midL _ _ _)) | (rw [List.append_assoc]))
end Go.Ab.T
end
