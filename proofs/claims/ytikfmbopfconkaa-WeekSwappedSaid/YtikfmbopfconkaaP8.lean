/-
  A part of the proofs over this seat.
  (The texts KwK23 KwM5, one behind the other.)
-/
import Derived.Test.YtikfmbopfconkaaP7
import Derived.KernelRfl
set_option linter.unusedSimpArgs false
set_option linter.unusedVariables false
set_option linter.unusedSectionVars false
section
namespace Go.Ab.T
set_option maxRecDepth 8000
set_option maxHeartbeats 4000000
def asg52_0 : ACode := (.region [⟨(some 6), none, .mov (.t 12)⟩])
def body52_0 : ACode := (.block 1 (.seq (.seq (.region [⟨(some 14), none, .load (.t 2) none⟩,
    ⟨(some 15), none, .mov (.t 6)⟩,
    ⟨(some 16), none, .call 58 [(.t 14), (.t 15)]⟩,
    ⟨(some 13), none, .mov (.t 16)⟩,
    ⟨(some 17), none, .ext (.t 13) 0⟩,
    ⟨(some 18), none, .ext (.t 13) 1⟩,
    ⟨(some 7), none, .mov (.t 17)⟩,
    ⟨(some 8), none, .mov (.t 18)⟩])
  (.seq (.region [⟨(some 19), none, .mov (.t 8)⟩])
  (.cond (.t 19) (.exit 1)
  (.skip))))
  (.seq (.region [⟨(some 20), none, .mov (.t 6)⟩,
    ⟨(some 21), none, .call 75 [(.t 20)]⟩,
    ⟨(some 9), none, .mov (.t 21)⟩])
  (.seq (.region [⟨(some 22), none, .load (.t 5) none⟩,
    ⟨(some 23), none, .not (.t 22)⟩,
    ⟨(some 24), none, .mov (.t 23)⟩,
    ⟨(some 25), some (24, false), .mov (.t 9)⟩,
    ⟨(some 26), some (24, false), .load (.t 4) none⟩,
    ⟨(some 27), some (24, false), .call 79 [(.t 25), (.t 26)]⟩,
    ⟨(some 28), none, .pick (.t 24) (.c (.bool true)) (.t 27)⟩])
  (.cond (.t 28) (.region [⟨(some 29), none, .mov (.t 9)⟩,
    ⟨none, none, .store (.t 4) (.t 29) 1⟩,
    ⟨none, none, .store (.t 5) (.c (.bool true)) 1⟩])
  (.skip))))))
theorem resOf_cc (s : St) (n m : Nat) (z1 z2 : Option Nat) : resOf s [.cell n z1, .cell m z2] = (loadAt s.mem (s.env n) z1).bind fun v => (loadAt s.mem (s.env m) z2).map fun w => .tup [v, w] := by
  simp only [resOf, resAll, resOne]; cases loadAt s.mem (s.env n) z1 <;> cases loadAt s.mem (s.env m) z2 <;> rfl
/-- Compared number by number. -/
def cmpL : List Nat → List Nat → Int
  | [], [] => 0
  | [], _ :: _ => -1
  | _ :: _, [] => 1
  | x :: a, y :: b => if x < y then -1 else if y < x then 1 else cmpL a b
theorem isNaN_ok (n : Int) : RV ft 116 [I64 n] (.bool false) := by
  refine RV_of ft116 rfl ?_
  simp only [c116, r116]
  simp only [go_sem, Nat.reduceEqDiff, Nat.reduceAdd, Nat.reduceLT, Nat.reduceLeDiff, reduceIte, show (n != n) = false by simp]
def cmp1 (x y : Int) : Int := if x < y then -1 else if y < x then 1 else 0
theorem Compare1_ok (x y : Int) : RV ft 113 [I64 x, I64 y] (I64 (cmp1 x y)) := by
  refine RV_of ft113 rfl ?_
  simp only [c113, r113]
  unfold cmp1
  by_cases h1 : x < y
  · simp only [go_sem, Nat.reduceEqDiff, Nat.reduceAdd, Nat.reduceLT, Nat.reduceLeDiff, reduceIte, WB116, WVH_eq (isNaN_ok _), true_and, decide_eq_true h1, if_pos h1]
  · by_cases h2 : y < x
    · simp only [go_sem, Nat.reduceEqDiff, Nat.reduceAdd, Nat.reduceLT, Nat.reduceLeDiff, reduceIte, WB116, WVH_eq (isNaN_ok _), true_and, decide_eq_false h1, if_neg h1, decide_eq_true h2, if_pos h2]
    · simp only [go_sem, Nat.reduceEqDiff, Nat.reduceAdd, Nat.reduceLT, Nat.reduceLeDiff, reduceIte, WB116, WVH_eq (isNaN_ok _), true_and, decide_eq_false h1, if_neg h1, decide_eq_false h2, if_neg h2]
theorem Compare_ok (a b : List Nat) (ha : a.length ≤ 8) (hb : b.length ≤ 8) : RV ft 101 [encNs a, encNs b] (I64 (cmpL a b)) := by
  refine RV_of ft101 rfl ?_
  simp only [c101, r101]
  simp only [go_sem, Nat.reduceEqDiff, Nat.reduceAdd, Nat.reduceLT, Nat.reduceLeDiff, reduceIte, Ns_len]
  refine WL_inv (α := Nat × List Nat × List Nat) (fun q e mm => e 0 = encNs a ∧ e 1 = encNs b ∧ e 9 = encNs a ∧ e 10 = I64 a.length ∧ e 11 = I64 q.1 ∧ a.drop q.1 = q.2.1 ∧ b.drop q.1 = q.2.2 ∧ q.1 ≤ b.length ∧ q.1 ≤ a.length ∧ cmpL q.2.1 q.2.2 = cmpL a b) (fun q => q.2.1.length) (0, a, b) ?_ ?_
  · simp only [go_sem, Nat.reduceEqDiff, Nat.reduceAdd, Nat.reduceLT, Nat.reduceLeDiff, reduceIte]
    exact ⟨trivial, trivial, trivial, trivial, rfl, trivial, trivial, Nat.zero_le _, Nat.zero_le _, trivial⟩
  rintro ⟨k, r, s⟩ e m ⟨g0, g1, g9, g10, g11, hda, hdb, hkb, hka, hq⟩
  dsimp only at g11 hda hdb hkb hka hq
  cases r with
  | nil =>
    have hge := drop_nil hda
    cases s with
    | nil =>
      have hge2 := drop_nil hdb
      simp only [go_sem, Nat.reduceEqDiff, Nat.reduceAdd, Nat.reduceLT, Nat.reduceLeDiff, reduceIte, g0, g1, g9, g10, g11, dec_ge hge, Ns_len, dec_ge (show b.length ≤ a.length by omega)]
      rw [← hq]; rfl
    | cons y s =>
      obtain ⟨_, _, hlt⟩ := drop_cons hdb
      simp only [go_sem, Nat.reduceEqDiff, Nat.reduceAdd, Nat.reduceLT, Nat.reduceLeDiff, reduceIte, g0, g1, g9, g10, g11, dec_ge hge, Ns_len, dec_lt (show a.length < b.length by omega)]
      rw [← hq]; rfl
  | cons x r =>
    obtain ⟨hk, hd2, hlt⟩ := drop_cons hda
    cases s with
    | nil =>
      have hge2 := drop_nil hdb
      have h2 : decide ((b.length : Int) ≤ (k : Int)) = true := decide_eq_true (by omega)
      simp only [go_sem, Nat.reduceEqDiff, Nat.reduceAdd, Nat.reduceLT, Nat.reduceLeDiff, reduceIte, g0, g1, g9, g10, g11, dec_lt hlt, Ns_idx _ hk, Ns_len, h2]
      rw [← hq]; rfl
    | cons y s =>
      obtain ⟨hk2, hd3, hlt2⟩ := drop_cons hdb
      have h2 : decide ((b.length : Int) ≤ (k : Int)) = false := decide_eq_false (by omega)
      by_cases h3 : x < y
      · have hc : cmp1 (x : Int) (y : Int) = -1 := if_pos (by omega)
        simp only [go_sem, Nat.reduceEqDiff, Nat.reduceAdd, Nat.reduceLT, Nat.reduceLeDiff, reduceIte, g0, g1, g9, g10, g11, dec_lt hlt, Ns_idx _ hk, Ns_len, h2, Ns_idx _ hk2, WB113, WVH_eq (Compare1_ok _ _), true_and, hc, show ((-1 : Int) != 0) = true from rfl]
        rw [← hq]; simp [cmpL, h3]
      · by_cases h4 : y < x
        · have hc : cmp1 (x : Int) (y : Int) = 1 := by unfold cmp1; rw [if_neg (by omega), if_pos (by omega)]
          simp only [go_sem, Nat.reduceEqDiff, Nat.reduceAdd, Nat.reduceLT, Nat.reduceLeDiff, reduceIte, g0, g1, g9, g10, g11, dec_lt hlt, Ns_idx _ hk, Ns_len, h2, Ns_idx _ hk2, WB113, WVH_eq (Compare1_ok _ _), true_and, hc, show ((1 : Int) != 0) = true from rfl]
          rw [← hq]; simp [cmpL, h3, h4]
        · have hc : cmp1 (x : Int) (y : Int) = 0 := by unfold cmp1; rw [if_neg (by omega), if_neg (by omega)]
          simp only [go_sem, Nat.reduceEqDiff, Nat.reduceAdd, Nat.reduceLT, Nat.reduceLeDiff, reduceIte, g0, g1, g9, g10, g11, dec_lt hlt, Ns_idx _ hk, Ns_len, h2, Ns_idx _ hk2, WB113, WVH_eq (Compare1_ok _ _), true_and, hc, show ((0 : Int) != 0) = false from rfl, wrap_n1 k (by omega)]
          refine Nx_of (k + 1, r, s) (by simp) ?_
          simp only [go_sem, Nat.reduceEqDiff, Nat.reduceAdd, Nat.reduceLT, Nat.reduceLeDiff, reduceIte, g0, g1, g9, g10]
          exact ⟨trivial, trivial, trivial, trivial, trivial, hd2, hd3, hlt2, hlt, by rw [← hq]; simp [cmpL, h3, h4]⟩
def beforeL (a b : List Nat) : Bool := decide (a.length < b.length) || (decide (a.length = b.length) && decide (cmpL a b < 0))
theorem comesBefore_ok (a b : List Nat) (ha : a.length ≤ 8) (hb : b.length ≤ 8) : RV ft 79 [encNs a, encNs b] (.bool (beforeL a b)) := by
  refine RV_of ft79 rfl ?_
  simp only [c79, r79]
  unfold beforeL
  rcases Nat.lt_or_ge a.length b.length with h | h
  · simp only [go_sem, Nat.reduceEqDiff, Nat.reduceAdd, Nat.reduceLT, Nat.reduceLeDiff, reduceIte, Ns_len, dec_lt h, decide_eq_true h]
  · by_cases h2 : a.length = b.length
    · have h3 : ((a.length : Int) == (b.length : Int)) = true := by rw [beq_nat]; exact decide_eq_true h2
      simp only [go_sem, Nat.reduceEqDiff, Nat.reduceAdd, Nat.reduceLT, Nat.reduceLeDiff, reduceIte, Ns_len, dec_ge h, decide_eq_false (show ¬ a.length < b.length by omega), h3, decide_eq_true h2, Ns_sn, Ns_hot, WB101, WVH_eq (Compare_ok a b ha hb), true_and]
    · have h3 : ((a.length : Int) == (b.length : Int)) = false := by rw [beq_nat]; exact decide_eq_false h2
      simp only [go_sem, Nat.reduceEqDiff, Nat.reduceAdd, Nat.reduceLT, Nat.reduceLeDiff, reduceIte, Ns_len, dec_ge h, decide_eq_false (show ¬ a.length < b.length by omega), h3, decide_eq_false h2]
def stepC (kvs : List (Nat × Pg)) (a : List Nat × Bool) (s : Nat) : List Nat × Bool :=
  if (mostM s kvs).2 = true then a else if (!a.2 || beforeL (numsN s) a.1) = true then (numsN s, true) else a
def clashL (kvs : List (Nat × Pg)) (all : Nat) : List Nat × Bool := (subsN all).foldl (stepC kvs) ([], false)
def VN (l : List Nat) (v : AV) : Prop := v = encNs l ∨ (l = [] ∧ v = .sl [] .tight)
theorem VN.snap {l : List Nat} {v : AV} (h : VN l v) (m : Mem) (q : Nat) : Ab.snap m (q + 2) v = encNs l := by
  rcases h with rfl | ⟨rfl, rfl⟩
  · exact Ns_sn m q l
  · rfl
theorem VN.hot {l : List Nat} {v : AV} (h : VN l v) (q : Nat) : Ab.hot (q + 2) v = false := by
  rcases h with rfl | ⟨rfl, rfl⟩
  · exact Ns_hot q l
  · rfl
theorem VN.cells {l : List Nat} {v : AV} (h : VN l v) : v.cells = [v] ∧ v.solid = true ∧ v.isAgg = false := by
  rcases h with rfl | ⟨rfl, rfl⟩ <;> exact ⟨rfl, rfl, rfl⟩
theorem VN.write {l : List Nat} {v : AV} (h : VN l v) (w : AV) : writeCells v 0 [w] = some w := by
  rcases h with rfl | ⟨rfl, rfl⟩ <;> rfl
theorem clash_ok (bl : List Blk) (mid : Nat) (l : List (Nat × Pg)) (hm : bl[mid]? = some (.mp (encKV l) .i)) (hl : ∀ x ∈ l, x.1 < 256) (all : Nat) (hall : all < 256) (K : AV → Mem → Prop)
    (hK : ∀ v ext, VN (clashL l all).1 v → K (.tup [v, .bool (clashL l all).2]) ⟨bl ++ ext, []⟩) : WR ft (.f 52) [.mp mid, U64 all] ⟨bl, []⟩ K := by
  rw [WR_f ft52 rfl]
  simp only [c52, r52]
  simp only [go_sem, Nat.reduceEqDiff, Nat.reduceAdd, Nat.reduceLT, Nat.reduceLeDiff, reduceIte, WB78, WVH_eq (subsets_ok _), true_and]
  refine WL_range_of (g := 100) (first := []) (cap := [.pv (U64 all) 0]) ?_ ?_
  · rfl
  simp only [go_sem, Nat.reduceEqDiff, Nat.reduceAdd, Nat.reduceLT, Nat.reduceLeDiff, reduceIte]
  have hinit : ∀ env0 : Nat → AV, env0 2 = .ptr bl.length 0 0 → env0 4 = .ptr (bl.length + 1) 0 0 → env0 5 = .ptr (bl.length + 2) 0 0 → ∀ K' : AV → Mem → Prop,
      (∀ v ext, VN (clashL l all).1 v → K' (.tup []) ⟨bl ++ (.live [.mp mid] 1 :: .live [v] 1 :: .live [.bool (clashL l all).2] 1 :: (Blk.lp env0 [12] asg52_0 body52_0 true none) :: ext), []⟩) →
      WR ft (.f 100) [.yld (bl.length + 3), .pv (U64 all) 0] ⟨bl ++ (.live [.mp mid] 1 :: .live [.sl [] .tight] 1 :: .live [.bool false] 1 :: [(Blk.lp env0 [12] asg52_0 body52_0 true none)]), []⟩ K' := by
    intro env0 v2 v4 v5 K' hK'
    refine subsets_prod hall (J := fun ys mm => ∃ d ok v ext, mm = ⟨bl ++ (.live [.mp mid] 1 :: .live [v] 1 :: .live [.bool ok] 1 :: (Blk.lp env0 [12] asg52_0 body52_0 true none) :: ext), []⟩ ∧ VN d v ∧ d.length ≤ 8 ∧ ys.foldl (stepC l) (d, ok) = clashL l all) ?_ _ ⟨[], false, .sl [] .tight, [], rfl, .inr ⟨rfl, rfl⟩, by simp, rfl⟩ _ ?_
    · rintro x xs m K2 hx ⟨d, ok, v, ext, rfl, hv, hd8, hq⟩ hk2
      rw [List.foldl_cons] at hq
      obtain ⟨c1, c2, c3⟩ := hv.cells
      have A0 : ∀ (a b c e : Blk) (u : List Blk), (bl ++ (a :: b :: c :: e :: u))[bl.length]? = some a := fun a b c e u => get_mid _ _ _ rfl
      have A1 : ∀ (a b c e : Blk) (u : List Blk), (bl ++ (a :: b :: c :: e :: u))[bl.length + 1]? = some b := fun a b c e u => by
        rw [show bl ++ (a :: b :: c :: e :: u) = (bl ++ [a]) ++ b :: (c :: e :: u) by simp]; exact get_mid _ _ _ (by simp)
      have A2 : ∀ (a b c e : Blk) (u : List Blk), (bl ++ (a :: b :: c :: e :: u))[bl.length + 2]? = some c := fun a b c e u => by
        rw [show bl ++ (a :: b :: c :: e :: u) = (bl ++ [a, b]) ++ c :: (e :: u) by simp]; exact get_mid _ _ _ (by simp)
      have A3 : ∀ (a b c e : Blk) (u : List Blk), (bl ++ (a :: b :: c :: e :: u))[bl.length + 3]? = some e := fun a b c e u => by
        rw [show bl ++ (a :: b :: c :: e :: u) = (bl ++ [a, b, c]) ++ e :: u by simp]; exact get_mid _ _ _ (by simp)
      have S1 : ∀ (a b c e x : Blk) (u : List Blk), (bl ++ (a :: b :: c :: e :: u)).set (bl.length + 1) x = bl ++ (a :: x :: c :: e :: u) := fun a b c e x u => by
        rw [show bl ++ (a :: b :: c :: e :: u) = (bl ++ [a]) ++ b :: (c :: e :: u) by simp, set_mid _ _ _ _ (by simp)]; simp
      have S2 : ∀ (a b c e x : Blk) (u : List Blk), (bl ++ (a :: b :: c :: e :: u)).set (bl.length + 2) x = bl ++ (a :: b :: x :: e :: u) := fun a b c e x u => by
        rw [show bl ++ (a :: b :: c :: e :: u) = (bl ++ [a, b]) ++ c :: (e :: u) by simp, set_mid _ _ _ _ (by simp)]; simp
      have S3 : ∀ (a b c e x : Blk) (u : List Blk), (bl ++ (a :: b :: c :: e :: u)).set (bl.length + 3) x = bl ++ (a :: b :: c :: x :: u) := fun a b c e x u => by
        rw [show bl ++ (a :: b :: c :: e :: u) = (bl ++ [a, b, c]) ++ e :: u by simp, set_mid _ _ _ _ (by simp)]; simp
      have AM : ∀ u : List Blk, (bl ++ u)[mid]? = some (.mp (encKV l) .i) := fun u => by rw [List.getElem?_append_left (List.getElem?_eq_some_iff.1 hm).1]; exact hm
      have hnum := numbers_ok x hx
      have hn8 := numsN_len hx
      have hend : ∀ (e' : Nat → AV) (d' : List Nat) (ok' : Bool) (v' : AV) (ext' : List Blk), VN d' v' → d'.length ≤ 8 → stepC l (d, ok) x = (d', ok') → YEnd (bl.length + 3) K2 .nxt ⟨e', ⟨bl ++ (.live [.mp mid] 1 :: .live [v'] 1 :: .live [.bool ok'] 1 :: (Blk.lp env0 [12] asg52_0 body52_0 false none) :: ext'), []⟩⟩ := fun e' d' ok' v' ext' h1 h2 h3 => by
        refine YEnd_lp (A3 _ _ _ _ _) ?_
        dsimp only
        rw [S3]
        exact hk2 _ ⟨d', ok', v', ext', rfl, h1, h2, by rw [← h3]; exact hq⟩
      refine WR_yld (ft := ft) (A3 _ _ _ _ _) rfl ?_
      simp only [go_sem, Nat.reduceEqDiff, Nat.reduceAdd, Nat.reduceLT, Nat.reduceLeDiff, reduceIte, asg52_0, puts]
      refine YBegin_lp (ft := ft) (A3 _ _ _ _ _) ?_
      dsimp only
      rw [S3]
      show W ft body52_0 ⟨_, ⟨bl ++ (.live [.mp mid] 1 :: .live [v] 1 :: .live [.bool ok] 1 :: (Blk.lp env0 [12] asg52_0 body52_0 false none) :: ext), []⟩⟩ _
      obtain ⟨lb, hlb⟩ : ∃ b, b = (Blk.lp env0 [12] asg52_0 body52_0 false none) := ⟨_, rfl⟩
      rw [← hlb] at hend ⊢
      simp only [go_sem, Nat.reduceEqDiff, Nat.reduceAdd, Nat.reduceLT, Nat.reduceLeDiff, reduceIte, body52_0, v2, v4, v5, A0, WB58]
      refine most_ok _ mid l (AM _) hl _ hx _ ?_
      rw [show ∀ (a b c e : Blk) (u z : List Blk), bl ++ (a :: b :: c :: e :: u) ++ z = bl ++ (a :: b :: c :: e :: (u ++ z)) from fun a b c e u z => by simp]
      cases h1 : (mostM x l).2
      case true =>
        simp only [go_sem, Nat.reduceEqDiff, Nat.reduceAdd, Nat.reduceLT, Nat.reduceLeDiff, reduceIte, v2, v4, v5, h1]
        exact hend _ d ok v _ hv hd8 (by unfold stepC; rw [if_pos h1])
      cases ok with
      | false =>
        simp only [go_sem, Nat.reduceEqDiff, Nat.reduceAdd, Nat.reduceLT, Nat.reduceLeDiff, reduceIte, v2, v4, v5, h1, WB75, WVH_eq hnum, true_and, A1, A2, c1, c2, hv.write, cellsNs, solidNs, S1, S2]
        exact hend _ (numsN x) true (encNs (numsN x)) _ (.inl rfl) hn8 (by unfold stepC; simp [h1])
      | true =>
        have hcb := comesBefore_ok (numsN x) d hn8 hd8
        cases h2 : beforeL (numsN x) d
        · simp only [go_sem, Nat.reduceEqDiff, Nat.reduceAdd, Nat.reduceLT, Nat.reduceLeDiff, reduceIte, v2, v4, v5, h1, WB75, WVH_eq hnum, true_and, A1, A2, c1, c2, WB79, Ns_sn, Ns_hot, hv.snap, hv.hot, WVH_eq hcb, h2]
          exact hend _ d true v _ hv hd8 (by unfold stepC; simp [h1, h2])
        · simp only [go_sem, Nat.reduceEqDiff, Nat.reduceAdd, Nat.reduceLT, Nat.reduceLeDiff, reduceIte, v2, v4, v5, h1, WB75, WVH_eq hnum, true_and, A1, A2, c1, c2, WB79, Ns_sn, Ns_hot, hv.snap, hv.hot, WVH_eq hcb, h2, hv.write, cellsNs, solidNs, S1, S2]
          exact hend _ (numsN x) true (encNs (numsN x)) _ (.inl rfl) hn8 (by unfold stepC; simp [h1, h2])
    · rintro m ⟨d, ok, v, ext, rfl, hv, hd8, hq⟩
      rw [List.foldl_nil] at hq
      rw [← hq] at hK'
      exact hK' v ext hv
  have hl3 : (bl ++ [Blk.live [AV.mp mid] 1] ++ [Blk.live [AV.sl [] .tight] 1] ++ [Blk.live [AV.bool false] 1]).length = bl.length + 3 := by simp
  rw [hl3, show ∀ e0 : Blk, bl ++ [Blk.live [AV.mp mid] 1] ++ [Blk.live [AV.sl [] .tight] 1] ++ [Blk.live [AV.bool false] 1] ++ [e0] = bl ++ (.live [.mp mid] 1 :: .live [.sl [] .tight] 1 :: .live [.bool false] 1 :: [e0]) from fun e0 => by simp]
  refine hinit _ (by simp only [go_sem, Nat.reduceEqDiff, Nat.reduceAdd, Nat.reduceLT, Nat.reduceLeDiff, reduceIte]) (by simp only [go_sem, Nat.reduceEqDiff, Nat.reduceAdd, Nat.reduceLT, Nat.reduceLeDiff, reduceIte]; simp) (by simp only [go_sem, Nat.reduceEqDiff, Nat.reduceAdd, Nat.reduceLT, Nat.reduceLeDiff, reduceIte]; simp) _ fun v ext hv => ?_
  obtain ⟨c1, c2, c3⟩ := hv.cells
  refine RgEnd_lp (by
    rw [show ∀ (a b c e : Blk), bl ++ (a :: b :: c :: e :: ext) = (bl ++ [a, b, c]) ++ e :: ext from fun a b c e => by simp]
    exact get_mid _ _ _ (by simp)) ?_
  rw [show ∀ (a b c e x : Blk), (bl ++ (a :: b :: c :: e :: ext)).set (bl.length + 3) x = bl ++ (a :: b :: c :: x :: ext) from fun a b c e x => by
    rw [show bl ++ (a :: b :: c :: e :: ext) = (bl ++ [a, b, c]) ++ e :: ext by simp, set_mid _ _ _ _ (by simp)]; simp]
  have A1 : ∀ (a b c e : Blk) (u : List Blk), (bl ++ (a :: b :: c :: e :: u))[bl.length + 1]? = some b := fun a b c e u => by
    rw [show bl ++ (a :: b :: c :: e :: u) = (bl ++ [a]) ++ b :: (c :: e :: u) by simp]; exact get_mid _ _ _ (by simp)
  have A2 : ∀ (a b c e : Blk) (u : List Blk), (bl ++ (a :: b :: c :: e :: u))[bl.length + 2]? = some c := fun a b c e u => by
    rw [show bl ++ (a :: b :: c :: e :: u) = (bl ++ [a, b]) ++ c :: (e :: u) by simp]; exact get_mid _ _ _ (by simp)
  have S1 : ∀ (a b c e x : Blk) (u : List Blk), (bl ++ (a :: b :: c :: e :: u)).set (bl.length + 1) x = bl ++ (a :: x :: c :: e :: u) := fun a b c e x u => by
    rw [show bl ++ (a :: b :: c :: e :: u) = (bl ++ [a]) ++ b :: (c :: e :: u) by simp, set_mid _ _ _ _ (by simp)]; simp
  have S2 : ∀ (a b c e x : Blk) (u : List Blk), (bl ++ (a :: b :: c :: e :: u)).set (bl.length + 2) x = bl ++ (a :: b :: x :: e :: u) := fun a b c e x u => by
    rw [show bl ++ (a :: b :: c :: e :: u) = (bl ++ [a, b]) ++ c :: (e :: u) by simp, set_mid _ _ _ _ (by simp)]; simp
  have L1 : (bl ++ [Blk.live [AV.mp mid] 1]).length = bl.length + 1 := by simp
  have L2 : (bl ++ [Blk.live [AV.mp mid] 1] ++ [Blk.live [AV.sl [] .tight] 1]).length = bl.length + 2 := by simp
  have ne : (bl.length + 2 != bl.length + 1) = true := by simp [bne]
  simp only [go_sem, Nat.reduceEqDiff, Nat.reduceAdd, Nat.reduceLT, Nat.reduceLeDiff, reduceIte, L1, L2, A1, A2, S1, S2, c1, c2, hv.write, ne, resOf_cc, Option.bind_some, writeCells_bool]
  exact hK v _ hv
def clashO (w : Wk) : List Nat × Int := if chkW w = 0 then (if (clashL (bestsL w) (allD w)).2 = true then ((clashL (bestsL w) (allD w)).1, 0) else ([], 3)) else ([], chkW w)
theorem Clash_ok (w : Wk) : RV ft 24 [encW w] (.tup [encNs (clashO w).1, I64 (clashO w).2]) := by
  refine RV_of ft24 rfl ?_
  simp only [c24, r24]
  unfold clashO
  by_cases h0 : chkW w = 0
  case neg =>
    have n0 : (chkW w != 0) = true := by rw [bne, beq_eq_false_iff_ne.2 h0]; rfl
    simp only [go_sem, Nat.reduceEqDiff, Nat.reduceAdd, Nat.reduceLT, Nat.reduceLeDiff, reduceIte, WCells, WEta, FCells, FEta, DCells, DEta, cellsIs, solidIs, cellsFs, solidFs, cellsDs, solidDs, Bool.and_self, Is_len, Fs_len, Ds_len, true_and, snW, hotW, snD, hotD, snIs, hotIs, WB14, WVH_eq (Check_ok w), n0, if_neg h0]
    rfl
  have hw := WV_of (chkW_ok h0).1
  have hds := chkW_DV h0
  have hD := hw.d
  have hal : RV ft 53 [encW w] (U64 (allD w)) := allDeals_ok w (by omega)
  have hlt : allD w < 256 := allD_lt hw
  simp only [go_sem, Nat.reduceEqDiff, Nat.reduceAdd, Nat.reduceLT, Nat.reduceLeDiff, reduceIte, WCells, WEta, FCells, FEta, DCells, DEta, cellsIs, solidIs, cellsFs, solidFs, cellsDs, solidDs, Bool.and_self, Is_len, Fs_len, Ds_len, true_and, snW, hotW, snD, hotD, snIs, hotIs, WB14, WVH_eq (Check_ok w), h0, show ((0 : Int) != 0) = false from rfl, WB51]
  refine bestOfEach_ok w hw hds _ _ fun ext => ?_
  simp only [go_sem, Nat.reduceEqDiff, Nat.reduceAdd, Nat.reduceLT, Nat.reduceLeDiff, reduceIte, WCells, WEta, FCells, FEta, DCells, DEta, cellsIs, solidIs, cellsFs, solidFs, cellsDs, solidDs, Bool.and_self, Is_len, Fs_len, Ds_len, true_and, snW, hotW, snD, hotD, snIs, hotIs, WB53, WVH_eq hal, WB52]
  refine clash_ok _ 1 (bestsL w) rfl (bests_lt hw) _ hlt _ fun v ext' hv => ?_
  obtain ⟨c1, c2, c3⟩ := hv.cells
  cases h2 : (clashL (bestsL w) (allD w)).2
  · simp only [go_sem, Nat.reduceEqDiff, Nat.reduceAdd, Nat.reduceLT, Nat.reduceLeDiff, reduceIte, WCells, WEta, FCells, FEta, DCells, DEta, cellsIs, solidIs, cellsFs, solidFs, cellsDs, solidDs, Bool.and_self, Is_len, Fs_len, Ds_len, true_and, snW, hotW, snD, hotD, snIs, hotIs, h2]
    rw [if_pos h0]; rfl
  · simp only [go_sem, Nat.reduceEqDiff, Nat.reduceAdd, Nat.reduceLT, Nat.reduceLeDiff, reduceIte, WCells, WEta, FCells, FEta, DCells, DEta, cellsIs, solidIs, cellsFs, solidFs, cellsDs, solidDs, Bool.and_self, Is_len, Fs_len, Ds_len, true_and, snW, hotW, snD, hotD, snIs, hotIs, h2, hv.snap]
    rw [if_pos h0]
end Go.Ab.T
end

section
namespace Go.Ab.T
set_option maxRecDepth 8000
set_option maxHeartbeats 1000000
def keepsD (w : Wk) (D : Nat) (p : List Int) : Prop := ∀ n, D.testBit n = true → keepsAt w p n = true
theorem and_eq_iff (a D : Nat) : a &&& D = D ↔ ∀ n, D.testBit n = true → a.testBit n = true := by
  refine ⟨fun h n hn => ?_, fun h => Nat.eq_of_testBit_eq fun n => ?_⟩
  · rw [← h, Nat.testBit_and, Bool.and_eq_true] at hn; exact hn.1
  · rw [Nat.testBit_and]
    cases hD : D.testBit n
    · rw [Bool.and_false]
    · rw [h n hD]; rfl
theorem stepM_fold (D : Nat) : ∀ (l : List (Nat × Pg)) (a : Int × Bool), (l.foldl (stepM D) a).2 = (a.2 || l.any fun x => decide (x.1 &&& D = D)) ∧ a.1 ≤ (l.foldl (stepM D) a).1 ∧ (∀ x ∈ l, x.1 &&& D = D → x.2.tk ≤ (l.foldl (stepM D) a).1) ∧
    ((l.foldl (stepM D) a).1 = a.1 ∨ ∃ x ∈ l, x.1 &&& D = D ∧ (l.foldl (stepM D) a).1 = x.2.tk)
  | [], a => ⟨by simp, Int.le_refl _, by simp, .inl rfl⟩
  | x :: l, a => by
    obtain ⟨h1, h2, h3, h4⟩ := stepM_fold D l (stepM D a x)
    rw [List.foldl_cons]
    by_cases hx : x.1 &&& D = D
    · have hs : stepM D a x = (max a.1 x.2.tk, true) := by unfold stepM; rw [if_pos hx]
      rw [hs] at h1 h2 h3 h4 ⊢
      simp only [] at h2 h4
      refine ⟨by rw [h1]; simp [hx], by omega, fun y hy hyD => ?_, ?_⟩
      · rcases List.mem_cons.1 hy with rfl | hy
        · omega
        · exact h3 y hy hyD
      · rcases h4 with h4 | ⟨y, hy, hyD, h5⟩
        · rcases Int.le_total x.2.tk a.1 with h | h
          · exact .inl (by omega)
          · exact .inr ⟨x, by simp, hx, by omega⟩
        · exact .inr ⟨y, by simp [hy], hyD, h5⟩
    · have hs : stepM D a x = a := by unfold stepM; rw [if_neg hx]
      rw [hs] at h1 h2 h3 h4 ⊢
      refine ⟨by rw [h1]; simp [hx], h2, fun y hy hyD => ?_, ?_⟩
      · rcases List.mem_cons.1 hy with rfl | hy
        · exact absurd hyD hx
        · exact h3 y hy hyD
      · rcases h4 with h4 | ⟨y, hy, hyD, h5⟩
        · exact .inl h4
        · exact .inr ⟨y, by simp [hy], hyD, h5⟩
section
variable {w : Wk} (hc : chkW w = 0)
include hc
theorem entry_of {x : Nat × Pg} (hx : x ∈ bestsL w) : ∃ p, progOK w p = true ∧ x.2.tk = takeS w p ∧ ∀ D, x.1 &&& D = D ↔ keepsD w D p := by
  have hw := WV_of (chkW_ok hc).1
  have hds := chkW_DV hc
  obtain ⟨h1, h2⟩ := bests_mem hx
  obtain ⟨p, hp, hr⟩ := (progs_both hw).1 _ h1
  refine ⟨p, hp, tk_at hw hp hr, fun D => ?_⟩
  rw [and_eq_iff, h2]
  exact ⟨fun h n hn => by rw [← kept_at hw hds hr]; exact h n hn, fun h n hn => by rw [kept_at hw hds hr]; exact h n hn⟩
theorem entry_for {p : List Int} (hp : progOK w p = true) : ∃ x ∈ bestsL w, takeS w p ≤ x.2.tk ∧ ∀ n, x.1.testBit n = keepsAt w p n := by
  have hw := WV_of (chkW_ok hc).1
  have hds := chkW_DV hc
  obtain ⟨g, hg, hr⟩ := (progs_both hw).2 p hp
  obtain ⟨h1, h2⟩ := get_fold g.kept (progs w) [] (fun q hq => by cases hq)
  cases hgb : getB g.kept (bestsL w) with
  | none => exact absurd rfl ((h1.1 hgb).2 g hg)
  | some q =>
    obtain ⟨_, _, h3, _⟩ := h2 q hgb
    exact ⟨_, getB_mem hgb, by rw [← tk_at hw hp hr]; exact h3 g hg rfl, fun n => kept_at hw hds hr n⟩
theorem takeS_nn {p : List Int} : 0 ≤ takeS w p := by
  have hw := WV_of (chkW_ok hc).1
  exact (sumI_le (fun i => seeV_le hw (p.getD i 0) (i / w.hours.toNat % w.rooms.length) (i % w.hours.toNat)) p.length 0).1
/-- What most says. -/
theorem most_spec (D : Nat) : ((mostM D (bestsL w)).2 = false ∧ (mostM D (bestsL w)).1 = 0 ∧ ∀ p, progOK w p = true → ¬keepsD w D p) ∨
    ((mostM D (bestsL w)).2 = true ∧ (∃ p, progOK w p = true ∧ keepsD w D p ∧ takeS w p = (mostM D (bestsL w)).1) ∧ ∀ p, progOK w p = true → keepsD w D p → takeS w p ≤ (mostM D (bestsL w)).1) := by
  obtain ⟨h1, h2, h3, h4⟩ := stepM_fold D (bestsL w) (0, false)
  rw [Bool.false_or] at h1
  have hfor : ∀ p, progOK w p = true → keepsD w D p → ∃ x ∈ bestsL w, takeS w p ≤ x.2.tk ∧ x.1 &&& D = D := fun p hp hk => by
    obtain ⟨x, hx, e1, e2⟩ := entry_for hc hp
    exact ⟨x, hx, e1, (and_eq_iff _ _).2 fun n hn => by rw [e2]; exact hk n hn⟩
  cases ha : (bestsL w).any fun x => decide (x.1 &&& D = D)
  · rw [ha] at h1
    left
    have hno : ∀ x ∈ bestsL w, ¬ x.1 &&& D = D := fun x hx he => by
      rw [List.any_eq_false] at ha
      exact ha x hx (decide_eq_true he)
    refine ⟨h1, ?_, fun p hp hk => ?_⟩
    · rcases h4 with h4 | ⟨x, hx, he, _⟩
      · exact h4
      · exact absurd he (hno x hx)
    · obtain ⟨x, hx, _, he⟩ := hfor p hp hk
      exact hno x hx he
  · rw [ha] at h1
    right
    obtain ⟨x, hx, he⟩ := List.any_eq_true.1 ha
    have he := of_decide_eq_true he
    have hle : ∀ p, progOK w p = true → keepsD w D p → takeS w p ≤ (mostM D (bestsL w)).1 := fun p hp hk => by
      obtain ⟨y, hy, e1, e2⟩ := hfor p hp hk
      exact Int.le_trans e1 (h3 y hy e2)
    refine ⟨h1, ?_, hle⟩
    rcases h4 with h4 | ⟨y, hy, hey, h5⟩
    · obtain ⟨p, hp, ht, hk⟩ := entry_of hc hx
      have h6 : (mostM D (bestsL w)).1 = 0 := h4
      have h7 := h3 x hx he
      have h8 := takeS_nn hc (p := p)
      refine ⟨p, hp, (hk D).1 he, ?_⟩
      have h9 : x.2.tk ≤ (mostM D (bestsL w)).1 := h7
      omega
    · obtain ⟨p, hp, ht, hk⟩ := entry_of hc hy
      exact ⟨p, hp, (hk D).1 hey, by rw [← ht]; exact h5.symm⟩
end
def keepsAll (w : Wk) (p : List Int) : Prop := ∀ n, n < w.deals.length → keepsAt w p n = true
theorem keepsAll_iff (w : Wk) (p : List Int) : keepsAll w p ↔ keepsD w (allD w) p := by
  have h : ∀ n, (allD w).testBit n = decide (n < w.deals.length) := fun n => Nat.testBit_two_pow_sub_one _ _
  exact ⟨fun hk n hn => hk n (by rw [h] at hn; exact of_decide_eq_true hn), fun hk n hn => hk n (by rw [h]; exact decide_eq_true hn)⟩
/-- The greatest takings, and the error. -/
def IsMost (w : Wk) (n e : Int) : Prop := (e = 3 ∧ n = 0 ∧ ∀ p, progOK w p = true → ¬keepsAll w p) ∨ (e = 0 ∧ (∃ p, progOK w p = true ∧ keepsAll w p ∧ takeS w p = n) ∧ ∀ p, progOK w p = true → keepsAll w p → takeS w p ≤ n)
theorem IsMost.uniq {w : Wk} {n e n' e' : Int} (h : IsMost w n e) (h' : IsMost w n' e') : n = n' ∧ e = e' := by
  rcases h with ⟨a1, a2, a3⟩ | ⟨a1, ⟨p, b1, b2, b3⟩, a3⟩ <;> rcases h' with ⟨c1, c2, c3⟩ | ⟨c1, ⟨q, d1, d2, d3⟩, c3⟩
  · omega
  · exact absurd d2 (a3 q d1)
  · exact absurd b2 (c3 p b1)
  · have h1 := a3 q d1 d2
    have h2 := c3 p b1 b2
    omega
/-- What Best's program is. -/
theorem best_spec {w : Wk} (hc : chkW w = 0) : ((bestO w).2 = 3 ∧ (bestO w).1 = zeroP ∧ ∀ p, progOK w p = true → ¬keepsAll w p) ∨
    ((bestO w).2 = 0 ∧ ∃ p0, progOK w p0 = true ∧ keepsAll w p0 ∧ Rel w w.films.length p0 (bestO w).1 ∧ (bestO w).1.tk = takeS w p0 ∧ ∀ p, progOK w p = true → keepsAll w p → takeS w p ≤ (bestO w).1.tk) := by
  have hw := WV_of (chkW_ok hc).1
  have hds := chkW_DV hc
  unfold bestO
  rw [if_pos hc]
  obtain ⟨h1, h2⟩ := get_fold (allD w) (progs w) [] (fun q hq => by cases hq)
  have hke : ∀ {g : Pg} {p : List Int}, progOK w p = true → Rel w w.films.length p g → (g.kept = allD w ↔ keepsAll w p) := fun {g p} hp hr => by
    have hall : ∀ n, (allD w).testBit n = decide (n < w.deals.length) := fun n => Nat.testBit_two_pow_sub_one _ _
    refine ⟨fun he n hn => ?_, fun hk => Nat.eq_of_testBit_eq fun n => ?_⟩
    · rw [← kept_at hw hds hr, he, hall]; exact decide_eq_true hn
    · rw [kept_at hw hds hr, hall]
      by_cases hn : n < w.deals.length
      · rw [decide_eq_true hn]; exact hk n hn
      · rw [decide_eq_false hn]; unfold keepsAt; rw [List.getElem?_eq_none (by omega)]
  cases hgb : getB (allD w) (bestsL w) with
  | none =>
    left
    refine ⟨rfl, rfl, fun p hp hk => ?_⟩
    obtain ⟨g, hg, hr⟩ := (progs_both hw).2 p hp
    exact (h1.1 hgb).2 g hg ((hke hp hr).2 hk)
  | some q =>
    right
    obtain ⟨e1, e2, e3, _⟩ := h2 q hgb
    have hq : q ∈ progs w := by
      rcases e2 with e2 | e2
      · exact e2
      · cases e2
    obtain ⟨p0, hp0, hr0⟩ := (progs_both hw).1 q hq
    refine ⟨rfl, p0, hp0, (hke hp0 hr0).1 e1, hr0, tk_at hw hp0 hr0, fun p hp hk => ?_⟩
    obtain ⟨g, hg, hr⟩ := (progs_both hw).2 p hp
    have := e3 g hg ((hke hp hr).2 hk)
    rw [tk_at hw hp hr] at this
    exact this
theorem Most_spec {w : Wk} (hc : chkW w = 0) : IsMost w (bestO w).1.tk (bestO w).2 := by
  rcases best_spec hc with ⟨h1, h2, h3⟩ | ⟨h1, p0, h2, h3, _, h4, h5⟩
  · exact .inl ⟨h1, by rw [h2]; rfl, h3⟩
  · exact .inr ⟨h1, ⟨p0, h2, h3, h4.symm⟩, h5⟩
/-! ### Clashes -/
/-- No program keeps all deals of a set. -/
def Bad (w : Wk) (s : Nat) : Prop := ∀ p, progOK w p = true → ¬keepsD w s p
theorem bad_iff {w : Wk} (hc : chkW w = 0) (s : Nat) : (mostM s (bestsL w)).2 = false ↔ Bad w s := by
  rcases most_spec hc s with ⟨h1, _, h3⟩ | ⟨h1, ⟨p, h2, h3, _⟩, _⟩
  · exact ⟨fun _ => h3, fun _ => h1⟩
  · exact ⟨(fun h => by rw [h1] at h; cases h), (fun h => absurd h3 (h p h2))⟩
theorem cmpL_lt_irrefl : ∀ a : List Nat, cmpL a a = 0
  | [] => rfl
  | x :: a => by simp [cmpL, cmpL_lt_irrefl a]
theorem cmpL_trans : ∀ {a b c : List Nat}, cmpL a b < 0 → cmpL b c < 0 → cmpL a c < 0
  | [], [], _, h, _ => by simp [cmpL] at h
  | [], _ :: _, [], _, h => by simp [cmpL] at h
  | [], _ :: _, _ :: _, _, _ => by simp [cmpL]
  | _ :: _, [], _, h, _ => by simp [cmpL] at h
  | _ :: _, _ :: _, [], _, h => by simp [cmpL] at h
  | x :: a, y :: b, z :: c, h1, h2 => by
    simp only [cmpL] at h1 h2 ⊢
    by_cases e1 : x < y
    · by_cases e2 : y < z
      · rw [if_pos (by omega)]; decide
      · rw [if_neg e2] at h2
        by_cases e3 : z < y
        · rw [if_pos e3] at h2; exact absurd h2 (by decide)
        · rw [if_pos (by omega)]; decide
    · rw [if_neg e1] at h1
      by_cases e3 : y < x
      · rw [if_pos e3] at h1; exact absurd h1 (by decide)
      · rw [if_neg e3] at h1
        have : x = y := by omega
        subst this
        by_cases e2 : x < z
        · rw [if_pos e2]; decide
        · rw [if_neg e2] at h2 ⊢
          by_cases e4 : z < x
          · rw [if_pos e4] at h2; exact absurd h2 (by decide)
          · rw [if_neg e4] at h2 ⊢
            exact cmpL_trans h1 h2
theorem cmpL_zero : ∀ {a b : List Nat}, ¬ cmpL a b < 0 → ¬ cmpL b a < 0 → a.length = b.length → a = b
  | [], [], _, _, _ => rfl
  | [], _ :: _, _, _, h => by simp at h
  | _ :: _, [], _, _, h => by simp at h
  | x :: a, y :: b, h1, h2, h3 => by
    simp only [cmpL] at h1 h2
    by_cases e1 : x < y
    · rw [if_pos e1] at h1; exact absurd (by decide) h1
    · by_cases e2 : y < x
      · rw [if_pos e2] at h2; exact absurd (by decide) h2
      · rw [if_neg e1, if_neg e2] at h1
        rw [if_neg e2, if_neg e1] at h2
        rw [show x = y by omega, cmpL_zero h1 h2 (by simpa using h3)]
theorem before_iff (a b : List Nat) : beforeL a b = true ↔ a.length < b.length ∨ (a.length = b.length ∧ cmpL a b < 0) := by
  unfold beforeL; simp
theorem before_trans {a b c : List Nat} (h1 : beforeL a b = true) (h2 : beforeL b c = true) : beforeL a c = true := by
  rw [before_iff] at *
  rcases h1 with h1 | ⟨h1, h3⟩ <;> rcases h2 with h2 | ⟨h2, h4⟩
  · exact .inl (by omega)
  · exact .inl (by omega)
  · exact .inl (by omega)
  · exact .inr ⟨by omega, cmpL_trans h3 h4⟩
theorem before_total {a b : List Nat} (h1 : beforeL a b = false) (h2 : beforeL b a = false) : a = b := by
  have g1 : ¬ beforeL a b = true := by rw [h1]; decide
  have g2 : ¬ beforeL b a = true := by rw [h2]; decide
  rw [before_iff] at g1 g2
  exact cmpL_zero (fun h => g1 (.inr ⟨by omega, h⟩)) (fun h => g2 (.inr ⟨by omega, h⟩)) (by omega)
theorem before_asymm {a b : List Nat} (h : beforeL a b = true) : beforeL b a = false := by
  cases h2 : beforeL b a
  · rfl
  · have := before_trans h h2
    rw [before_iff, cmpL_lt_irrefl] at this
    omega
theorem before_le {a b c : List Nat} (h1 : beforeL b a = false) (h2 : beforeL c b = false) : beforeL c a = false := by
  cases h3 : beforeL c a
  · rfl
  · cases h4 : beforeL a b
    · rw [before_total h4 h1] at h3; rw [h3] at h2; cases h2
    · rw [before_trans h3 h4] at h2; cases h2
theorem stepC_fold (kvs : List (Nat × Pg)) : ∀ (l : List Nat) (a : List Nat × Bool), (a.2 = false → a.1 = []) →
    ((l.foldl (stepC kvs) a).2 = false ↔ a.2 = false ∧ ∀ s ∈ l, (mostM s kvs).2 = true) ∧ ((l.foldl (stepC kvs) a).2 = false → (l.foldl (stepC kvs) a).1 = []) ∧
    ((l.foldl (stepC kvs) a).2 = true → ((a.2 = true ∧ (l.foldl (stepC kvs) a).1 = a.1) ∨ ∃ s ∈ l, (mostM s kvs).2 = false ∧ (l.foldl (stepC kvs) a).1 = numsN s) ∧
      (∀ s ∈ l, (mostM s kvs).2 = false → beforeL (numsN s) (l.foldl (stepC kvs) a).1 = false) ∧ (a.2 = true → beforeL a.1 (l.foldl (stepC kvs) a).1 = false))
  | [], a, ha => ⟨by simp, ha, fun h => ⟨.inl ⟨h, rfl⟩, by simp, fun _ => by
      cases h2 : beforeL a.1 a.1
      · exact h2
      · have := before_asymm h2; rw [h2] at this; cases this⟩⟩
  | s :: l, a, ha => by
    rw [List.foldl_cons]
    have irr : ∀ x : List Nat, beforeL x x = false := fun x => by
      cases h2 : beforeL x x
      · rfl
      · have := before_asymm h2; rw [h2] at this; cases this
    cases h1 : (mostM s kvs).2
    case true =>
      have hs : stepC kvs a s = a := by unfold stepC; rw [if_pos h1]
      rw [hs]
      obtain ⟨i1, i2, i3⟩ := stepC_fold kvs l a ha
      refine ⟨by rw [i1]; simp [h1], i2, fun h => ?_⟩
      obtain ⟨j1, j2, j3⟩ := i3 h
      refine ⟨?_, fun t ht hb => ?_, j3⟩
      · rcases j1 with j1 | ⟨t, ht, hb, he⟩
        · exact .inl j1
        · exact .inr ⟨t, by simp [ht], hb, he⟩
      · rcases List.mem_cons.1 ht with rfl | ht
        · rw [h1] at hb; cases hb
        · exact j2 t ht hb
    cases h2 : (!a.2 || beforeL (numsN s) a.1)
    · have hs : stepC kvs a s = a := by unfold stepC; rw [h1, h2]; simp
      rw [hs]
      obtain ⟨i1, i2, i3⟩ := stepC_fold kvs l a ha
      rw [Bool.or_eq_false_iff] at h2
      have ha2 : a.2 = true := by simpa using h2.1
      refine ⟨by rw [i1]; simp [ha2], i2, fun h => ?_⟩
      obtain ⟨j1, j2, j3⟩ := i3 h
      refine ⟨?_, fun t ht hb => ?_, j3⟩
      · rcases j1 with j1 | ⟨t, ht, hb, he⟩
        · exact .inl j1
        · exact .inr ⟨t, by simp [ht], hb, he⟩
      · rcases List.mem_cons.1 ht with rfl | ht
        · exact before_le (j3 ha2) h2.2
        · exact j2 t ht hb
    · have hs : stepC kvs a s = (numsN s, true) := by unfold stepC; rw [h1, h2]; simp
      rw [hs]
      obtain ⟨i1, i2, i3⟩ := stepC_fold kvs l (numsN s, true) (fun h => by cases h)
      refine ⟨by rw [i1]; simp [h1], i2, fun h => ?_⟩
      obtain ⟨j1, j2, j3⟩ := i3 h
      have j4 := j3 rfl
      refine ⟨.inr ?_, fun t ht hb => ?_, fun ha2 => ?_⟩
      · rcases j1 with ⟨_, j1⟩ | ⟨t, ht, hb, he⟩
        · exact ⟨s, by simp, h1, j1⟩
        · exact ⟨t, by simp [ht], hb, he⟩
      · rcases List.mem_cons.1 ht with rfl | ht
        · exact j4
        · exact j2 t ht hb
      · rw [ha2] at h2
        simp only [Bool.not_true, Bool.false_or] at h2
        exact before_le j4 (before_asymm h2)
/-- The deals that clash, and the error. -/
def IsClash (w : Wk) (l : List Nat) (e : Int) : Prop := (e = 3 ∧ l = [] ∧ ∀ s ∈ subsN (allD w), ¬Bad w s) ∨ (e = 0 ∧ ∃ s0 ∈ subsN (allD w), Bad w s0 ∧ l = numsN s0 ∧ ∀ s ∈ subsN (allD w), Bad w s → beforeL (numsN s) (numsN s0) = false)
theorem IsClash.uniq {w : Wk} {l l' : List Nat} {e e' : Int} (h : IsClash w l e) (h' : IsClash w l' e') : l = l' ∧ e = e' := by
  rcases h with ⟨a1, a2, a3⟩ | ⟨a1, s, b1, b2, b3, b4⟩ <;> rcases h' with ⟨c1, c2, c3⟩ | ⟨c1, t, d1, d2, d3, d4⟩
  · exact ⟨by rw [a2, c2], by omega⟩
  · exact absurd d2 (a3 t d1)
  · exact absurd b2 (c3 s b1)
  · refine ⟨?_, by omega⟩
    rw [b3, d3]
    exact before_total (d4 s b1 b2) (b4 t d1 d2)
theorem Clash_spec {w : Wk} (hc : chkW w = 0) : IsClash w (clashO w).1 (clashO w).2 := by
  unfold clashO
  rw [if_pos hc]
  obtain ⟨i1, i2, i3⟩ := stepC_fold (bestsL w) (subsN (allD w)) ([], false) (fun _ => rfl)
  cases h : (clashL (bestsL w) (allD w)).2
  · rw [if_neg (by decide)]
    exact .inl ⟨rfl, rfl, fun s hs hb => by
      have := (i1.1 h).2 s hs
      rw [(bad_iff hc s).2 hb] at this; cases this⟩
  · rw [if_pos rfl]
    obtain ⟨j1, j2, _⟩ := i3 h
    rcases j1 with ⟨j1, _⟩ | ⟨s, hs, hb, he⟩
    · cases j1
    · exact .inr ⟨rfl, s, hs, (bad_iff hc s).1 hb, he, fun t ht hbt => by
        rw [← he]; exact j2 t ht ((bad_iff hc t).2 hbt)⟩
end Go.Ab.T
end
