/-
  A part of the proofs over this seat.
  (The texts KwK18 KwK19, one behind the other.)
-/
import Derived.Test.YtikfmbopfconkaaP4
set_option linter.unusedSimpArgs false
set_option linter.unusedVariables false
set_option linter.unusedSectionVars false
section
namespace Go.Ab.T
set_option maxRecDepth 8000
set_option maxHeartbeats 4000000
def asg99_0 : ACode := (.region [⟨(some 6), none, .mov (.t 15)⟩])
def body99_0 : ACode := (.block 1 (.region [⟨(some 16), none, .load (.t 5) none⟩,
    ⟨(some 17), none, .mov (.t 6)⟩,
    ⟨(some 18), none, .load (.t 2) (some 5)⟩,
    ⟨(some 19), none, .load (.t 3) none⟩,
    ⟨(some 20), none, .mov (.t 6)⟩,
    ⟨(some 21), none, .call 47 [(.t 18), (.t 19), (.t 20)]⟩,
    ⟨(some 22), none, .load (.t 2) (some 5)⟩,
    ⟨(some 23), none, .load (.t 3) none⟩,
    ⟨(some 24), none, .mov (.t 6)⟩,
    ⟨(some 25), none, .call 112 [(.t 22), (.t 23), (.t 24)]⟩,
    ⟨(some 26), none, .build [(.int .i64 0), (.int .u64 0)] [(0, 1, (.t 21)), (1, 1, (.t 25))]⟩,
    ⟨(some 27), none, .idx (.t 16) (.t 17) 2⟩,
    ⟨none, none, .store (.t 27) (.t 26) 2⟩]))
/-- The next set behind one that another one holds. -/
def nxN (s t : Nat) : Nat := (t + 18446744073709551616 - s) &&& s
def subsF (s : Nat) : Nat → Nat → List Nat
  | 0, t => [t]
  | n + 1, t => t :: (if t = s then [] else subsF s n (nxN s t))
def reachF (s : Nat) : Nat → Nat → Bool
  | 0, t => decide (t = s)
  | n + 1, t => decide (t = s) || (decide (t < s) && reachF s n (nxN s t))
/-- The sets that a set holds. -/
def subsN (s : Nat) : List Nat := (List.range 256).filter fun t => decide (t &&& s = t)
theorem subs_tab : ∀ s : _root_.Fin 256, (reachF s.val 255 0 && decide (subsF s.val 255 0 = subsN s.val)) = true := by decide +kernel
theorem subs_full : ∀ L : _root_.Fin 9, subsN (2 ^ L.val - 1) = List.range (2 ^ L.val) := by decide +kernel
theorem mem_subsN {s t : Nat} : t ∈ subsN s ↔ t < 256 ∧ t &&& s = t := by
  unfold subsN; simp [List.mem_filter]
theorem subsets_ok (s : Nat) : RV ft 78 [U64 s] (.fn 100 [] [.pv (U64 s) 0]) := by
  refine RV_of ft78 rfl ?_
  simp only [c78, r78]
  simp only [go_sem, Nat.reduceEqDiff, Nat.reduceAdd, Nat.reduceLT, Nat.reduceLeDiff, reduceIte]
theorem subsets_prod {s : Nat} (hs : s < 256) {id : Nat} {J : List Nat → Mem → Prop}
    (hy : ∀ x xs m K', x < 256 → J (x :: xs) m → (∀ m', J xs m' → K' (.bool true) m') → WR ft (.y id) [U64 x] m K')
    (m : Mem) (h0 : J (subsN s) m) (K : AV → Mem → Prop) (hK : ∀ m, J [] m → K (.tup []) m) : WR ft (.f 100) [.yld id, .pv (U64 s) 0] m K := by
  rw [WR_f ft100 rfl]
  simp only [c100, r100]
  have htab := subs_tab ⟨s, hs⟩
  simp only [Bool.and_eq_true, decide_eq_true_eq] at htab
  rw [← htab.2] at h0
  simp only [go_sem, Nat.reduceEqDiff, Nat.reduceAdd, Nat.reduceLT, Nat.reduceLeDiff, reduceIte]
  refine WL_inv (α := Nat × Nat) (fun q e mm => e 0 = .yld id ∧ e 1 = .pv (U64 s) 0 ∧ e 3 = U64 q.2 ∧ q.2 < 256 ∧ reachF s q.1 q.2 = true ∧ J (subsF s q.1 q.2) mm) (fun q => q.1) (255, 0) ?_ ?_
  · simp only [go_sem, Nat.reduceEqDiff, Nat.reduceAdd, Nat.reduceLT, Nat.reduceLeDiff, reduceIte]
    exact ⟨trivial, trivial, rfl, by decide, htab.1, h0⟩
  rintro ⟨n, t⟩ e m ⟨g0, g1, g3, ht, hr, hj⟩
  dsimp only at g3 ht hr hj
  by_cases he : t = s
  · subst he
    have hj' : J (t :: []) m := by cases n <;> simpa [subsF] using hj
    simp only [go_sem, Nat.reduceEqDiff, Nat.reduceAdd, Nat.reduceLT, Nat.reduceLeDiff, reduceIte, g0, g1, g3]
    refine hy _ _ _ _ ht hj' fun m' hm' => ?_
    simp only [go_sem, Nat.reduceEqDiff, Nat.reduceAdd, Nat.reduceLT, Nat.reduceLeDiff, reduceIte, g0, g1, g3, show ((t : Int) != (t : Int)) = false by simp]
    exact hK _ hm'
  cases n with
  | zero => simp [reachF, he] at hr
  | succ n =>
    simp only [reachF, he, decide_false, Bool.false_or, Bool.and_eq_true, decide_eq_true_eq] at hr
    simp only [subsF, he, if_false] at hj
    have hne : ((t : Int) != (s : Int)) = true := by rw [bne, Bool.not_eq_true', beq_eq_false_iff_ne]; omega
    have w1 : IntKind.u64.wrap ((t : Int) - (s : Int)) = ((t + 18446744073709551616 - s : Nat) : Int) := by
      simp only [IntKind.wrap, IntKind.bits, IntKind.signed, Bool.false_and, Int.reducePow, Bool.false_eq_true, if_false]; omega
    have w2 := andI_u64 (t + 18446744073709551616 - s) s (by omega) (by omega)
    have hlt : nxN s t < 256 := Nat.lt_of_le_of_lt (Nat.and_le_right) hs
    simp only [go_sem, Nat.reduceEqDiff, Nat.reduceAdd, Nat.reduceLT, Nat.reduceLeDiff, reduceIte, g0, g1, g3]
    refine hy _ _ _ _ ht hj fun m' hm' => ?_
    simp only [go_sem, Nat.reduceEqDiff, Nat.reduceAdd, Nat.reduceLT, Nat.reduceLeDiff, reduceIte, g0, g1, g3, hne, w1, w2]
    refine Nx_of (n, nxN s t) (by simp) ?_
    simp only [go_sem, Nat.reduceEqDiff, Nat.reduceAdd, Nat.reduceLT, Nat.reduceLeDiff, reduceIte, g0, g1]
    exact ⟨trivial, trivial, rfl, hlt, hr.2, hm'⟩
/-! ### Outcomes -/
/-- What a film takes in a set of slots, and the deals that it keeps. -/
def outN (w : Wk) (m : Mv) (fi s : Nat) : Int × Nat := (pplS w m (numsN s) * m.price, keptN w (fi : Int) s w.deals 0 (2 ^ w.deals.length - 1))
def encO (o : Int × Nat) : AV := .agg [I64 o.1, U64 o.2]
def outL (w : Wk) (m : Mv) (fi : Nat) : List (Int × Nat) := (List.range (2 ^ w.slots.toNat)).map (outN w m fi)
def encOs (l : List (Int × Nat)) : AV := .sl (l.map encO) .unk
theorem Os_sn (m : Mem) (q : Nat) (l : List (Int × Nat)) : snap m (q + 3) (encOs l) = encOs l := by
  show AV.sl ((l.map encO).map (snap m (q + 2))) .unk = _
  rw [List.map_map]; rfl
theorem slotCount_WV {w : Wk} (hw : WV w) : RV ft 61 [encW w] (I64 (w.slots.toNat : Nat)) := by
  have h := slotCount_ok w (by have := hw.d1; omega) hw.d2 hw.r2 (by have := hw.h1; omega) hw.h2
  rwa [Int.toNat_of_nonneg (slots_nn hw)]
theorem outcomes_ok (w : Wk) (hw : WV w) (hds : ∀ d ∈ w.deals, DV w d) (fi : Nat) (m0 : Mv) (hm : w.films[fi]? = some m0) : RV ft 99 [encW w, I64 fi] (encOs (outL w m0 fi)) := by
  refine RV_of ft99 rfl ?_
  simp only [c99, r99]
  have hsc := slotCount_WV hw
  have h8 : w.slots.toNat ≤ 8 := by have := hw.s; omega
  unfold outL
  have hfull := subs_full ⟨w.slots.toNat, by omega⟩
  dsimp only at hfull
  have hpos := Nat.two_pow_pos w.slots.toNat
  have h256 : 2 ^ w.slots.toNat ≤ 256 := Nat.pow_le_pow_right (show 0 < 2 by decide) h8
  have hsh : IntKind.i64.wrap (1 * 2 ^ min ((w.slots.toNat : Nat) : Int).toNat 64) = ((2 ^ w.slots.toNat : Nat) : Int) := by
    rw [mn64 _ (by omega), Int.one_mul, show (2 : Int) ^ w.slots.toNat = ((2 ^ w.slots.toNat : Nat) : Int) by rw [Int.natCast_pow]; rfl]
    generalize 2 ^ w.slots.toNat = k at h256 ⊢
    exact wrap_i64 _ (by omega) (by omega)
  have hbel := below_ok w.slots.toNat (by omega)
  generalize hL : w.slots.toNat = L at *
  generalize hN : 2 ^ L = N at *
  have hc : decide ((0 ≤ (N : Int) ∧ (N : Int) = (N : Int)) ∧ (N : Int).toNat * (16 + 1) ≤ limit ∧ (AV.agg [.int .i64 0, .int .u64 0]).cells.length = 2 ∧ (AV.agg [.int .i64 0, .int .u64 0]).solids = true) = true := decide_eq_true ⟨⟨by omega, rfl⟩, by rw [Int.toNat_natCast]; simp only [limit]; omega, rfl, rfl⟩
  have hmk : ∀ m : Mem, makeAt m (.agg [.int .i64 0, .int .u64 0]) 2 16 (I64 (N : Nat)) (I64 (N : Nat)) = some (.ref m.blks.length 0 N, newBlk m (List.replicate N (.agg [.int .i64 0, .int .u64 0])) 2) := fun m => by
    rw [makeAt_int, if_pos (of_decide_eq_true hc), Int.toNat_natCast]
  simp only [go_sem, Nat.reduceEqDiff, Nat.reduceAdd, Nat.reduceLT, Nat.reduceLeDiff, reduceIte, WCells, WEta, FCells, FEta, DCells, DEta, cellsIs, solidIs, cellsFs, solidFs, cellsDs, solidDs, Bool.and_self, Is_len, Fs_len, Ds_len, true_and, snW, hotW, snD, hotD, snIs, hotIs, WB61, WVH_eq hsc, dec_neg, hsh, hmk, WB80, WVH_eq hbel, WB78, WVH_eq (subsets_ok _)]
  refine WL_range_of (g := 100) (first := []) (cap := [.pv (U64 (N - 1)) 0]) ?_ ?_
  · rfl
  simp only [go_sem, Nat.reduceEqDiff, Nat.reduceAdd, Nat.reduceLT, Nat.reduceLeDiff, reduceIte]
  have hinit : ∀ env0 : Nat → AV, env0 2 = .ptr 0 0 0 → env0 3 = .ptr 1 0 0 → env0 5 = .ptr 3 0 0 → ∀ K : AV → Mem → Prop,
      K (.tup []) ⟨[.live [encW w] 5, .live [I64 fi] 1, .live ((List.range N).map fun s => encO (outN w m0 fi s)) 2, .live [.ref 2 0 N] 1, .lp env0 [15] asg99_0 body99_0 true none], []⟩ →
      WR ft (.f 100) [.yld 4, .pv (U64 (N - 1)) 0] ⟨[.live [encW w] 5, .live [I64 fi] 1, .live (List.replicate N (.agg [.int .i64 0, .int .u64 0])) 2, .live [.ref 2 0 N] 1, .lp env0 [15] asg99_0 body99_0 true none], []⟩ K := by
    intro env0 v2 v3 v5 K hK
    refine subsets_prod (s := N - 1) (by omega) (J := fun ys mm => ∃ k, k ≤ N ∧ ys = List.range' k (N - k) ∧ mm = ⟨[.live [encW w] 5, .live [I64 fi] 1, .live ((List.range k).map (fun s => encO (outN w m0 fi s)) ++ List.replicate (N - k) (.agg [.int .i64 0, .int .u64 0])) 2, .live [.ref 2 0 N] 1, .lp env0 [15] asg99_0 body99_0 true none], []⟩) ?_ _ ⟨0, Nat.zero_le _, by rw [hfull, Nat.sub_zero, List.range_eq_range'], by simp⟩ _ ?_
    · rintro x xs m K' hx ⟨k, hk, hys, rfl⟩ hk'
      have hkN : k < N := by
        refine Classical.byContradiction fun h => ?_
        rw [show N - k = 0 by omega] at hys; simp at hys
      rw [show N - k = (N - (k + 1)) + 1 by omega, List.range'_succ] at hys
      simp only [List.cons.injEq] at hys
      obtain ⟨rfl, hxs⟩ := hys
      refine WR_yld (ft := ft) rfl rfl ?_
      simp only [go_sem, Nat.reduceEqDiff, Nat.reduceAdd, Nat.reduceLT, Nat.reduceLeDiff, reduceIte, asg99_0, puts]
      refine YBegin_lp (ft := ft) rfl ?_
      have hta := takings_ok w hw fi m0 hm x hx
      have hke := kept_ok w hw hds (fi : Int) x (by omega)
      have hget : ((List.range x).map (fun s => encO (outN w m0 fi s)) ++ List.replicate (N - x) (.agg [.int .i64 0, .int .u64 0]))[x]? = some (AV.agg [.int .i64 0, .int .u64 0]) := by
        rw [List.getElem?_append_right (by simp), List.getElem?_replicate]; simp; omega
      have hset : ((List.range x).map (fun s => encO (outN w m0 fi s)) ++ List.replicate (N - x) (AV.agg [.int .i64 0, .int .u64 0])).set x (.agg [I64 (outN w m0 fi x).1, U64 (outN w m0 fi x).2]) = (List.range (x + 1)).map (fun s => encO (outN w m0 fi s)) ++ List.replicate (N - (x + 1)) (.agg [.int .i64 0, .int .u64 0]) := by
        rw [show N - x = (N - (x + 1)) + 1 by omega, List.replicate_succ, set_at _ _ _ _ (by simp), List.range_succ, List.map_append]; simp [encO]
      have hcc : decide (((0 : Int) ≤ (x : Int) ∧ (x : Int) < (N : Int)) ∧ True) = true := decide_eq_true ⟨⟨by omega, by omega⟩, trivial⟩
      simp only [go_sem, Nat.reduceEqDiff, Nat.reduceAdd, Nat.reduceLT, Nat.reduceLeDiff, reduceIte, body99_0, v2, v3, v5, WCells, WEta, FCells, FEta, DCells, DEta, cellsIs, solidIs, cellsFs, solidFs, cellsDs, solidDs, Bool.and_self, Is_len, Fs_len, Ds_len, true_and, snW, hotW, snD, hotD, snIs, hotIs, WB47, WVH_eq hta, WB112, WVH_eq hke, hcc, Int.toNat_natCast, Nat.zero_add, hget, hset]
      refine YEnd_lp rfl ?_
      refine hk' _ ⟨x + 1, by omega, hxs, ?_⟩
      simp only [List.set_cons_succ, List.set_cons_zero]
      rw [← hset]; rfl
    · rintro m ⟨k, hk, hys, rfl⟩
      have : k = N := by
        refine Classical.byContradiction fun h => ?_
        rw [show N - k = (N - k - 1) + 1 by omega, List.range'_succ] at hys; cases hys
      subst this
      simpa using hK
  refine hinit _ (by simp only [go_sem, Nat.reduceEqDiff, Nat.reduceAdd, Nat.reduceLT, Nat.reduceLeDiff, reduceIte]) (by simp only [go_sem, Nat.reduceEqDiff, Nat.reduceAdd, Nat.reduceLT, Nat.reduceLeDiff, reduceIte]) (by simp only [go_sem, Nat.reduceEqDiff, Nat.reduceAdd, Nat.reduceLT, Nat.reduceLeDiff, reduceIte]) _ ?_
  refine RgEnd_lp rfl ?_
  simp only [go_sem, Nat.reduceEqDiff, Nat.reduceAdd, Nat.reduceLT, Nat.reduceLeDiff, reduceIte, Nat.zero_add, List.length_map, List.length_range, Nat.le_refl]
  rw [show List.take N ((List.range N).map fun s => encO (outN w m0 fi s)) = (List.range N).map fun s => encO (outN w m0 fi s) from List.take_of_length_le (by simp)]
  unfold encOs
  rw [List.map_map, List.map_map]; rfl
/-! ### Programs -/
structure Pg where
  tk : Int
  kept : Nat
  s0 : Nat
  s1 : Nat
  s2 : Nat
  s3 : Nat
  dark : Nat
def encP (p : Pg) : AV := .agg [I64 p.tk, U64 p.kept, U64 p.s0, U64 p.s1, U64 p.s2, U64 p.s3, U64 p.dark]
theorem PCells (p : Pg) : (encP p).cells = [I64 p.tk, U64 p.kept, U64 p.s0, U64 p.s1, U64 p.s2, U64 p.s3, U64 p.dark] := rfl
theorem PEta (p : Pg) : AV.agg [I64 p.tk, U64 p.kept, U64 p.s0, U64 p.s1, U64 p.s2, U64 p.s3, U64 p.dark] = encP p := rfl
theorem snP (m : Mem) (q : Nat) (p : Pg) : snap m (q + 2) (encP p) = encP p := rfl
theorem hotP (q : Nat) (p : Pg) : hot (q + 2) (encP p) = false := rfl
theorem plainP (q : Nat) (p : Pg) : plain (q + 2) (encP p) = true := rfl
theorem OCells (o : Int × Nat) : (encO o).cells = [I64 o.1, U64 o.2] := rfl
theorem OEta (o : Int × Nat) : AV.agg [I64 o.1, U64 o.2] = encO o := rfl
theorem snO (m : Mem) (q : Nat) (o : Int × Nat) : snap m (q + 2) (encO o) = encO o := rfl
theorem hotO (q : Nat) (o : Int × Nat) : hot (q + 2) (encO o) = false := rfl
def Pg.sh (p : Pg) : Nat → Nat
  | 0 => p.s0
  | 1 => p.s1
  | 2 => p.s2
  | _ => p.s3
def Pg.showing (p : Pg) (k s : Nat) (o : Int × Nat) : Pg := match k with
  | 0 => ⟨p.tk + o.1, p.kept &&& o.2, s, p.s1, p.s2, p.s3, andn p.dark s⟩
  | 1 => ⟨p.tk + o.1, p.kept &&& o.2, p.s0, s, p.s2, p.s3, andn p.dark s⟩
  | 2 => ⟨p.tk + o.1, p.kept &&& o.2, p.s0, p.s1, s, p.s3, andn p.dark s⟩
  | _ => ⟨p.tk + o.1, p.kept &&& o.2, p.s0, p.s1, p.s2, s, andn p.dark s⟩
theorem showing_ok (p : Pg) (k s : Nat) (o : Int × Nat) (hk : k < 4) (h1 : -1000000000 ≤ p.tk ∧ p.tk ≤ 1000000000) (h2 : -1000000000 ≤ o.1 ∧ o.1 ≤ 1000000000) (h3 : p.kept < 18446744073709551616) (h4 : o.2 < 18446744073709551616) (h5 : p.dark < 18446744073709551616) (h6 : s < 18446744073709551616) :
    RV ft 111 [encP p, I64 k, U64 s, encO o] (encP (p.showing k s o)) := by
  refine RV_of ft111 rfl ?_
  simp only [c111, r111]
  have w1 : IntKind.i64.wrap (p.tk + o.1) = p.tk + o.1 := wrap_i64 _ (by omega) (by omega)
  have w2 := andI_u64 _ _ h3 h4
  have w3 := andNot_u64 _ _ h5 h6
  unfold encP encO
  match k, hk with
  | 0, _ => simp only [go_sem, Nat.reduceEqDiff, Nat.reduceAdd, Nat.reduceLT, Nat.reduceLeDiff, reduceIte, show decide ((((0 : Int) ≤ 0 ∧ (0 : Int) < ((4 : Nat) : Int))) ∧ True) = true from by decide, Nat.reduceMul, true_and, w1, w2, w3, show (((0 : Nat) : Int)) = 0 from rfl, Int.toNat_zero, Nat.zero_mul, Nat.add_zero]; rfl
  | 1, _ => simp only [go_sem, Nat.reduceEqDiff, Nat.reduceAdd, Nat.reduceLT, Nat.reduceLeDiff, reduceIte, show decide ((((0 : Int) ≤ 1 ∧ (1 : Int) < ((4 : Nat) : Int))) ∧ True) = true from by decide, Nat.reduceMul, true_and, w1, w2, w3, show (((1 : Nat) : Int)) = 1 from rfl, show (1 : Int).toNat = 1 from rfl]; rfl
  | 2, _ => simp only [go_sem, Nat.reduceEqDiff, Nat.reduceAdd, Nat.reduceLT, Nat.reduceLeDiff, reduceIte, show decide ((((0 : Int) ≤ 2 ∧ (2 : Int) < ((4 : Nat) : Int))) ∧ True) = true from by decide, Nat.reduceMul, true_and, w1, w2, w3, show (((2 : Nat) : Int)) = 2 from rfl, show (2 : Int).toNat = 2 from rfl]; rfl
  | 3, _ => simp only [go_sem, Nat.reduceEqDiff, Nat.reduceAdd, Nat.reduceLT, Nat.reduceLeDiff, reduceIte, show decide ((((0 : Int) ≤ 3 ∧ (3 : Int) < ((4 : Nat) : Int))) ∧ True) = true from by decide, Nat.reduceMul, true_and, w1, w2, w3, show (((3 : Nat) : Int)) = 3 from rfl, show (3 : Int).toNat = 3 from rfl]; rfl
end Go.Ab.T
end

section
namespace Go.Ab.T
set_option maxRecDepth 8000
set_option maxHeartbeats 4000000
def asg110_0 : ACode := (.region [⟨(some 5), none, .new (.agg [(.int .i64 0), (.int .u64 0), (.int .u64 0), (.int .u64 0), (.int .u64 0), (.int .u64 0), (.int .u64 0)]) 7⟩,
    ⟨none, none, .store (.t 5) (.t 8) 7⟩])
def body110_0 : ACode := (.block 1 (.seq (.region [⟨(some 9), none, .addr (.t 5) 6⟩,
    ⟨(some 10), none, .load (.t 9) none⟩,
    ⟨(some 11), none, .call 78 [(.t 10)]⟩])
  (.block 2 (.range (.t 11) [12] (.region [⟨(some 6), none, .mov (.t 12)⟩])
  (.block 3 (.seq (.region [⟨(some 13), none, .load (.t 4) none⟩,
    ⟨(some 14), none, .load (.t 5) (some 7)⟩,
    ⟨(some 15), none, .load (.t 2) none⟩,
    ⟨(some 16), none, .mov (.t 6)⟩,
    ⟨(some 17), none, .load (.t 3) none⟩,
    ⟨(some 18), none, .mov (.t 6)⟩,
    ⟨(some 19), none, .idx (.t 17) (.t 18) 2⟩,
    ⟨(some 20), none, .load (.t 19) (some 2)⟩,
    ⟨(some 21), none, .call 111 [(.t 14), (.t 15), (.t 16), (.t 20)]⟩,
    ⟨(some 22), none, .callv (.t 13) [(.t 21)]⟩,
    ⟨(some 23), none, .not (.t 22)⟩])
  (.cond (.t 23) (.ret)
  (.skip))))))))
def asg110_1 : ACode := (.region [⟨(some 6), none, .mov (.t 12)⟩])
def body110_1 : ACode := (.block 3 (.seq (.region [⟨(some 13), none, .load (.t 4) none⟩,
    ⟨(some 14), none, .load (.t 5) (some 7)⟩,
    ⟨(some 15), none, .load (.t 2) none⟩,
    ⟨(some 16), none, .mov (.t 6)⟩,
    ⟨(some 17), none, .load (.t 3) none⟩,
    ⟨(some 18), none, .mov (.t 6)⟩,
    ⟨(some 19), none, .idx (.t 17) (.t 18) 2⟩,
    ⟨(some 20), none, .load (.t 19) (some 2)⟩,
    ⟨(some 21), none, .call 111 [(.t 14), (.t 15), (.t 16), (.t 20)]⟩,
    ⟨(some 22), none, .callv (.t 13) [(.t 21)]⟩,
    ⟨(some 23), none, .not (.t 22)⟩])
  (.cond (.t 23) (.ret)
  (.skip))))
theorem get_mid (A : List Blk) (b : Blk) (C : List Blk) {i : Nat} (h : i = A.length) : (A ++ b :: C)[i]? = some b := by subst h; simp
theorem set_mid (A : List Blk) (b c : Blk) (C : List Blk) {i : Nat} (h : i = A.length) : (A ++ b :: C).set i c = A ++ c :: C := by subst h; simp
def Has (L : List (Nat × Blk)) (pre : List Blk) : Prop := ∀ q ∈ L, pre[q.1]? = some q.2
theorem Has.app {L : List (Nat × Blk)} {pre : List Blk} (h : Has L pre) (x : List Blk) : Has L (pre ++ x) := fun q hq => by
  rw [List.getElem?_append_left (List.getElem?_eq_some_iff.1 (h q hq)).1]; exact h q hq
/-- A round of a loop over programs: it changes what lies up to its own block alone. -/
def PStep (id n : Nat) (J : List Pg → List Blk → Prop) : Prop := ∀ p ps pre suf (K : AV → Mem → Prop), pre.length = n → J (p :: ps) pre → (∀ pre' ext, pre'.length = n → J ps pre' → K (.bool true) ⟨pre' ++ (suf ++ ext), []⟩) → WR ft (.y id) [encP p] ⟨pre ++ suf, []⟩ K
/-- A function value that yields some programs, as long as some blocks stay as they are. -/
def PSeq (L : List (Nat × Blk)) (g : FuncId) (cap : List AV) (ps : List Pg) : Prop := ∀ (n id : Nat) (J : List Pg → List Blk → Prop), (∀ ps pre, J ps pre → Has L pre) → PStep id n J → ∀ pre suf (K : AV → Mem → Prop), pre.length = n → J ps pre →
  (∀ pre' ext, pre'.length = n → J [] pre' → K (.tup []) ⟨pre' ++ (suf ++ ext), []⟩) → WR ft (.f g) (.yld id :: cap) ⟨pre ++ suf, []⟩ K
/-- The program in which no film is shown. -/
def darkP (w : Wk) : Pg := ⟨0, 2 ^ w.deals.length - 1, 0, 0, 0, 0, 2 ^ w.slots.toNat - 1⟩
theorem dark_seq (w : Wk) (hw : WV w) (b : Nat) : PSeq [(b, .live [encW w] 5)] 109 [.ptr b 0 0] [darkP w] := by
  intro n id J hB step pre suf K hpre hJ hK
  rw [WR_f ft109 rfl]
  simp only [c109, r109]
  have h1 := (hB _ _ hJ).app suf (b, .live [encW w] 5) (by simp)
  have hsc := slotCount_WV hw
  have hD := hw.d
  have h8 : w.slots.toNat < 64 := by have := hw.s; omega
  simp only [go_sem, Nat.reduceEqDiff, Nat.reduceAdd, Nat.reduceLT, Nat.reduceLeDiff, reduceIte, h1, WCells, WEta, FCells, FEta, DCells, DEta, cellsIs, solidIs, cellsFs, solidFs, cellsDs, solidDs, Bool.and_self, Is_len, Fs_len, Ds_len, true_and, snW, hotW, snD, hotD, snIs, hotIs, WB53, WVH_eq (allDeals_ok w (by omega)), WB61, WVH_eq hsc, WB80, WVH_eq (below_ok _ h8)]
  refine step (darkP w) [] pre suf _ hpre hJ fun pre' ext h2 h3 => ?_
  simp only [go_sem, Nat.reduceEqDiff, Nat.reduceAdd, Nat.reduceLT, Nat.reduceLeDiff, reduceIte]
  exact hK pre' ext h2 h3
/-- A program that stays small. -/
structure OKP (N k : Nat) (p : Pg) : Prop where
  t0 : 0 ≤ p.tk
  t1 : p.tk ≤ k * 1000000
  kept : p.kept < 256
  dark : p.dark < N
def addF (film : Nat) (outs : List (Int × Nat)) (p : Pg) : List Pg := (subsN p.dark).map fun s => p.showing film s (outs.getD s (0, 0))
theorem showing_dark (p : Pg) (k s : Nat) (o : Int × Nat) : (p.showing k s o).dark = andn p.dark s ∧ (p.showing k s o).tk = p.tk + o.1 ∧ (p.showing k s o).kept = p.kept &&& o.2 := by
  unfold Pg.showing; split <;> exact ⟨rfl, rfl, rfl⟩
theorem OKP.next {N k : Nat} {p : Pg} (h : OKP N k p) {outs : List (Int × Nat)} (ho : ∀ o ∈ outs, (0 ≤ o.1 ∧ o.1 ≤ 1000000) ∧ o.2 < 256) {film : Nat} : ∀ q ∈ addF film outs p, OKP N (k + 1) q := by
  intro q hq
  obtain ⟨s, _, rfl⟩ := List.mem_map.1 hq
  obtain ⟨e1, e2, e3⟩ := showing_dark p film s (outs.getD s (0, 0))
  have h1 : (0 ≤ (outs.getD s (0, 0)).1 ∧ (outs.getD s (0, 0)).1 ≤ 1000000) := by
    rw [List.getD_eq_getElem?_getD]
    cases hi : outs[s]? with
    | none => exact ⟨Int.le_refl 0, by decide⟩
    | some o => exact (ho o (List.mem_of_getElem? hi)).1
  have h2 := h.t0
  have h3 := h.t1
  refine ⟨by omega, ?_, ?_, ?_⟩
  · rw [e2, show ((k + 1 : Nat) : Int) * 1000000 = k * 1000000 + 1000000 by omega]; omega
  · rw [e3]; exact Nat.lt_of_le_of_lt Nat.and_le_left h.kept
  · rw [e1]; exact Nat.lt_of_le_of_lt (andn_le _ _) h.dark
theorem Os_idx (m : Mem) {l : List (Int × Nat)} {k : Nat} {x : Int × Nat} {q : IntKind} (h : l[k]? = some x) : idxAt m (encOs l) (.int q (k : Int)) 2 = some (.pv (encO x) 0) := by
  unfold encOs
  rw [idxAt_sl, if_pos (by omega), Int.toNat_natCast, List.getElem?_map, h]; rfl
theorem cellsOs (l : List (Int × Nat)) : (encOs l).cells = [encOs l] := rfl
theorem solidOs (l : List (Int × Nat)) : (encOs l).solid = true := rfl
theorem and_le_of {t s : Nat} (h : t &&& s = t) : t ≤ s := by rw [← h]; exact Nat.and_le_right
theorem adding_seq {L : List (Nat × Blk)} {g : FuncId} {cap : List AV} {ps : List Pg} (h : PSeq L g cap ps) {N k film a a1 a2 : Nat} {outs : List (Int × Nat)} (hf : film < 4) (hk4 : k ≤ 4) (hN : outs.length = N) (hN2 : N ≤ 256)
    (ho : ∀ o ∈ outs, (0 ≤ o.1 ∧ o.1 ≤ 1000000) ∧ o.2 < 256) (hps : ∀ p ∈ ps, OKP N k p) :
    PSeq ((a, .live [.fn g [] cap] 1) :: (a1, .live [I64 film] 1) :: (a2, .live [encOs outs] 1) :: L) 110 [.ptr a 0 0, .ptr a1 0 0, .ptr a2 0 0] (ps.flatMap (addF film outs)) := by
  intro n id J hB step pre suf K hpre hJ hK
  rw [WR_f ft110 rfl]
  simp only [c110, r110]
  have ha : (pre ++ suf ++ [Blk.live [.yld id] 1])[a]? = some (.live [.fn g [] cap] 1) := ((hB _ _ hJ).app suf).app [Blk.live [.yld id] 1] (a, .live [.fn g [] cap] 1) (by simp)
  simp only [go_sem, Nat.reduceEqDiff, Nat.reduceAdd, Nat.reduceLT, Nat.reduceLeDiff, reduceIte, ha]
  refine WL_range_of (g := g) (first := []) (cap := cap) ?_ ?_
  · rfl
  simp only [go_sem, Nat.reduceEqDiff, Nat.reduceAdd, Nat.reduceLT, Nat.reduceLeDiff, reduceIte]
  have hinit : ∀ (env0 : Nat → AV) (q : Nat), q = n + suf.length → env0 2 = .ptr a1 0 0 → env0 3 = .ptr a2 0 0 → env0 4 = .ptr q 0 0 → ∀ K' : AV → Mem → Prop,
      (∀ pre' ext, pre'.length = n → J [] pre' → K' (.tup []) ⟨pre' ++ (suf ++ (Blk.live [.yld id] 1 :: .lp env0 [8] asg110_0 body110_0 true none :: ext)), []⟩) →
      WR ft (.f g) (.yld (q + 1) :: cap) ⟨pre ++ suf ++ [Blk.live [.yld id] 1] ++ [.lp env0 [8] asg110_0 body110_0 true none], []⟩ K' := by
    intro env0 q hq v2 v3 v4 K' hK'
    rw [show pre ++ suf ++ [Blk.live [.yld id] 1] ++ [.lp env0 [8] asg110_0 body110_0 true none] = pre ++ (suf ++ [(Blk.live [.yld id] 1), (Blk.lp env0 [8] asg110_0 body110_0 true none)]) ++ [] by simp]
    refine h (q + 2) (q + 1) (fun ps pre'' => (∀ p ∈ ps, OKP N k p) ∧ ∃ pre1, pre'' = pre1 ++ (suf ++ [(Blk.live [.yld id] 1), (Blk.lp env0 [8] asg110_0 body110_0 true none)]) ∧ pre1.length = n ∧ J (ps.flatMap (addF film outs)) pre1) ?_ ?_ _ [] K' (by simp; omega) ⟨hps, pre, rfl, hpre, hJ⟩ ?_
    · rintro ps pre'' ⟨_, pre1, rfl, _, hj⟩
      exact fun x hx => (hB _ _ hj).app _ x (by simp [hx])
    · rintro p ps pre'' suf2 K2 hlen ⟨hok, pre1, rfl, hpre1, hj⟩ hk2
      have hp := hok p (by simp)
      have t0 := hp.t0
      have t1 := hp.t1
      have hkp := hp.kept
      have hdk := hp.dark
      have hHas := hB _ _ hj
      obtain ⟨bl, hbl⟩ : ∃ bl, bl = pre1 ++ (suf ++ [(Blk.live [.yld id] 1), (Blk.lp env0 [8] asg110_0 body110_0 true none)]) ++ suf2 := ⟨_, rfl⟩
      rw [← hbl]
      have hlp : bl[q + 1]? = some (Blk.lp env0 [8] asg110_0 body110_0 true none) := by
        rw [hbl, show pre1 ++ (suf ++ [(Blk.live [.yld id] 1), (Blk.lp env0 [8] asg110_0 body110_0 true none)]) ++ suf2 = (pre1 ++ (suf ++ [(Blk.live [.yld id] 1)])) ++ (Blk.lp env0 [8] asg110_0 body110_0 true none) :: suf2 by simp]
        exact get_mid _ _ _ (by simp; omega)
      have hset : bl.set (q + 1) (Blk.lp env0 [8] asg110_0 body110_0 false none) = pre1 ++ (suf ++ ((Blk.live [.yld id] 1) :: (Blk.lp env0 [8] asg110_0 body110_0 false none) :: suf2)) := by
        rw [hbl, show pre1 ++ (suf ++ [(Blk.live [.yld id] 1), (Blk.lp env0 [8] asg110_0 body110_0 true none)]) ++ suf2 = (pre1 ++ (suf ++ [(Blk.live [.yld id] 1)])) ++ (Blk.lp env0 [8] asg110_0 body110_0 true none) :: suf2 by simp, set_mid _ _ _ _ (by simp; omega)]
        simp
      refine WR_yld (ft := ft) hlp rfl ?_
      have hql := (List.getElem?_eq_some_iff.1 hlp).1
      simp only [go_sem, Nat.reduceEqDiff, Nat.reduceAdd, Nat.reduceLT, Nat.reduceLeDiff, reduceIte, asg110_0, puts, PCells, PEta]
      refine YBegin_lp (ft := ft) (show (bl ++ [Blk.live [encP p] 7])[q + 1]? = some (Blk.lp env0 [8] asg110_0 body110_0 true none) by rw [List.getElem?_append_left hql]; exact hlp) ?_
      dsimp only
      rw [List.set_append_left _ _ hql]
      have hlenr : bl.length = n + suf.length + 2 + suf2.length := by rw [hbl]; simp; omega
      show W ft body110_0 ⟨_, ⟨bl.set (q + 1) (Blk.lp env0 [8] asg110_0 body110_0 false none) ++ [.live [encP p] 7], []⟩⟩ _
      obtain ⟨bl2, hbl2⟩ : ∃ b, b = bl.set (q + 1) (Blk.lp env0 [8] asg110_0 body110_0 false none) := ⟨_, rfl⟩
      rw [← hbl2] at hset ⊢
      have hl2 : bl2.length = bl.length := by rw [hbl2]; exact List.length_set
      clear hbl2
      generalize hr : bl.length = r at *
      have g1 : (bl2 ++ [Blk.live [encP p] 7])[r]? = some (.live [encP p] 7) := by rw [← hl2]; exact get_last _ _
      simp only [go_sem, Nat.reduceEqDiff, Nat.reduceAdd, Nat.reduceLT, Nat.reduceLeDiff, reduceIte, body110_0, g1, PCells, true_and, WB78, WVH_eq (subsets_ok _)]
      refine WL_range_of (g := 100) (first := []) (cap := [.pv (U64 p.dark) 0]) ?_ ?_
      · rfl
      simp only [go_sem, Nat.reduceEqDiff, Nat.reduceAdd, Nat.reduceLT, Nat.reduceLeDiff, reduceIte]
      have hinit2 : ∀ (env2 : Nat → AV), env2 2 = .ptr a1 0 0 → env2 3 = .ptr a2 0 0 → env2 4 = .ptr q 0 0 → env2 5 = .ptr r 0 0 → ∀ K3 : AV → Mem → Prop,
          (∀ pre' ext, pre'.length = n → J (ps.flatMap (addF film outs)) pre' → K3 (.tup []) ⟨pre' ++ (suf ++ ((Blk.live [.yld id] 1) :: (Blk.lp env0 [8] asg110_0 body110_0 false none) :: (suf2 ++ (Blk.live [encP p] 7 :: .lp env2 [12] asg110_1 body110_1 true none :: ext)))), []⟩) →
          WR ft (.f 100) [.yld (r + 1), .pv (U64 p.dark) 0] ⟨bl2 ++ [.live [encP p] 7] ++ [.lp env2 [12] asg110_1 body110_1 true none], []⟩ K3 := by
        intro env2 u2 u3 u4 u5 K3 hK3
        rw [hset]
        refine subsets_prod (s := p.dark) (by omega) (J := fun ss mm => ∃ pre' ext, mm = ⟨pre' ++ (suf ++ ((Blk.live [.yld id] 1) :: (Blk.lp env0 [8] asg110_0 body110_0 false none) :: (suf2 ++ ((Blk.live [encP p] 7) :: (Blk.lp env2 [12] asg110_1 body110_1 true none) :: ext)))), []⟩ ∧ pre'.length = n ∧ J (ss.map (fun s => p.showing film s (outs.getD s (0, 0))) ++ ps.flatMap (addF film outs)) pre' ∧ ∀ s ∈ ss, s ∈ subsN p.dark) ?_ _ ⟨pre1, [], by simp, hpre1, hj, fun _ hs => hs⟩ _ ?_
        · rintro x xs m K4 hx ⟨pre', ext, rfl, hl, hj', hin⟩ hk4'
          have hxs := (mem_subsN.1 (hin x (by simp))).2
          have hxle := and_le_of hxs
          have hox : outs[x]? = some (outs.getD x (0, 0)) := by rw [List.getD_eq_getElem?_getD, List.getElem?_eq_getElem (by omega)]; rfl
          have hob := ho _ (List.mem_of_getElem? hox)
          have hH := hB _ _ hj'
          have m1 : (pre' ++ (suf ++ ((Blk.live [.yld id] 1) :: (Blk.lp env0 [8] asg110_0 body110_0 false none) :: (suf2 ++ ((Blk.live [encP p] 7) :: (Blk.lp env2 [12] asg110_1 body110_1 true none) :: ext)))))[r + 1]? = some (Blk.lp env2 [12] asg110_1 body110_1 true none) := by
            rw [show pre' ++ (suf ++ ((Blk.live [.yld id] 1) :: (Blk.lp env0 [8] asg110_0 body110_0 false none) :: (suf2 ++ ((Blk.live [encP p] 7) :: (Blk.lp env2 [12] asg110_1 body110_1 true none) :: ext)))) = (pre' ++ (suf ++ ((Blk.live [.yld id] 1) :: (Blk.lp env0 [8] asg110_0 body110_0 false none) :: (suf2 ++ [(Blk.live [encP p] 7)])))) ++ (Blk.lp env2 [12] asg110_1 body110_1 true none) :: ext by simp]
            exact get_mid _ _ _ (by simp; omega)
          have m2 : (pre' ++ (suf ++ ((Blk.live [.yld id] 1) :: (Blk.lp env0 [8] asg110_0 body110_0 false none) :: (suf2 ++ ((Blk.live [encP p] 7) :: (Blk.lp env2 [12] asg110_1 body110_1 true none) :: ext))))).set (r + 1) (Blk.lp env2 [12] asg110_1 body110_1 false none) = pre' ++ (suf ++ ((Blk.live [.yld id] 1) :: (Blk.lp env0 [8] asg110_0 body110_0 false none) :: (suf2 ++ ((Blk.live [encP p] 7) :: (Blk.lp env2 [12] asg110_1 body110_1 false none) :: ext)))) := by
            rw [show pre' ++ (suf ++ ((Blk.live [.yld id] 1) :: (Blk.lp env0 [8] asg110_0 body110_0 false none) :: (suf2 ++ ((Blk.live [encP p] 7) :: (Blk.lp env2 [12] asg110_1 body110_1 true none) :: ext)))) = (pre' ++ (suf ++ ((Blk.live [.yld id] 1) :: (Blk.lp env0 [8] asg110_0 body110_0 false none) :: (suf2 ++ [(Blk.live [encP p] 7)])))) ++ (Blk.lp env2 [12] asg110_1 body110_1 true none) :: ext by simp, set_mid _ _ _ _ (by simp; omega)]
            simp
          refine WR_yld (ft := ft) m1 rfl ?_
          simp only [go_sem, Nat.reduceEqDiff, Nat.reduceAdd, Nat.reduceLT, Nat.reduceLeDiff, reduceIte, asg110_1, puts]
          refine YBegin_lp (ft := ft) m1 ?_
          dsimp only
          show W ft body110_1 ⟨_, ⟨(pre' ++ (suf ++ ((Blk.live [.yld id] 1) :: (Blk.lp env0 [8] asg110_0 body110_0 false none) :: (suf2 ++ ((Blk.live [encP p] 7) :: (Blk.lp env2 [12] asg110_1 body110_1 true none) :: ext))))).set (r + 1) (Blk.lp env2 [12] asg110_1 body110_1 false none), []⟩⟩ _
          rw [m2]
          have m3 : (pre' ++ (suf ++ ((Blk.live [.yld id] 1) :: (Blk.lp env0 [8] asg110_0 body110_0 false none) :: (suf2 ++ ((Blk.live [encP p] 7) :: (Blk.lp env2 [12] asg110_1 body110_1 false none) :: ext)))))[q]? = some (.live [.yld id] 1) := by
            rw [show pre' ++ (suf ++ ((Blk.live [.yld id] 1) :: (Blk.lp env0 [8] asg110_0 body110_0 false none) :: (suf2 ++ ((Blk.live [encP p] 7) :: (Blk.lp env2 [12] asg110_1 body110_1 false none) :: ext)))) = (pre' ++ suf) ++ (Blk.live [.yld id] 1) :: ((Blk.lp env0 [8] asg110_0 body110_0 false none) :: (suf2 ++ ((Blk.live [encP p] 7) :: (Blk.lp env2 [12] asg110_1 body110_1 false none) :: ext))) by simp]
            exact get_mid _ _ _ (by simp; omega)
          have m4 : (pre' ++ (suf ++ ((Blk.live [.yld id] 1) :: (Blk.lp env0 [8] asg110_0 body110_0 false none) :: (suf2 ++ ((Blk.live [encP p] 7) :: (Blk.lp env2 [12] asg110_1 body110_1 false none) :: ext)))))[r]? = some (.live [encP p] 7) := by
            rw [show pre' ++ (suf ++ ((Blk.live [.yld id] 1) :: (Blk.lp env0 [8] asg110_0 body110_0 false none) :: (suf2 ++ ((Blk.live [encP p] 7) :: (Blk.lp env2 [12] asg110_1 body110_1 false none) :: ext)))) = (pre' ++ (suf ++ ((Blk.live [.yld id] 1) :: (Blk.lp env0 [8] asg110_0 body110_0 false none) :: suf2))) ++ (Blk.live [encP p] 7) :: ((Blk.lp env2 [12] asg110_1 body110_1 false none) :: ext) by simp]
            exact get_mid _ _ _ (by simp; omega)
          have m5 := hH.app (suf ++ ((Blk.live [.yld id] 1) :: (Blk.lp env0 [8] asg110_0 body110_0 false none) :: (suf2 ++ ((Blk.live [encP p] 7) :: (Blk.lp env2 [12] asg110_1 body110_1 false none) :: ext)))) (a1, .live [I64 film] 1) (by simp)
          have m6 := hH.app (suf ++ ((Blk.live [.yld id] 1) :: (Blk.lp env0 [8] asg110_0 body110_0 false none) :: (suf2 ++ ((Blk.live [encP p] 7) :: (Blk.lp env2 [12] asg110_1 body110_1 false none) :: ext)))) (a2, .live [encOs outs] 1) (by simp)
          dsimp only at m5 m6
          have hsh := showing_ok p film x (outs.getD x (0, 0)) hf ⟨by omega, by omega⟩ ⟨by omega, by omega⟩ (by omega) (by omega) (by omega) (by omega)
          obtain ⟨s3, hs3⟩ : ∃ s3, s3 = suf ++ ((Blk.live [.yld id] 1) :: (Blk.lp env0 [8] asg110_0 body110_0 false none) :: (suf2 ++ ((Blk.live [encP p] 7) :: (Blk.lp env2 [12] asg110_1 body110_1 false none) :: ext))) := ⟨_, rfl⟩
          rw [← hs3] at m3 m4 m5 m6 ⊢
          simp only [go_sem, Nat.reduceEqDiff, Nat.reduceAdd, Nat.reduceLT, Nat.reduceLeDiff, reduceIte, body110_1, u2, u3, u4, u5, m3, m4, m5, m6, cellsOs, PCells, PEta, Os_idx _ hox, OCells, OEta, snP, hotP, snO, hotO, true_and, WB111, WVH_eq hsh]
          refine step _ _ pre' s3 _ hl hj' fun pre5 ext5 hl5 hj5 => ?_
          simp only [go_sem, Nat.reduceEqDiff, Nat.reduceAdd, Nat.reduceLT, Nat.reduceLeDiff, reduceIte]
          have n1 : (pre5 ++ (s3 ++ ext5))[r + 1]? = some (Blk.lp env2 [12] asg110_1 body110_1 false none) := by
            rw [hs3, show pre5 ++ (suf ++ ((Blk.live [.yld id] 1) :: (Blk.lp env0 [8] asg110_0 body110_0 false none) :: (suf2 ++ ((Blk.live [encP p] 7) :: (Blk.lp env2 [12] asg110_1 body110_1 false none) :: ext))) ++ ext5) = (pre5 ++ (suf ++ ((Blk.live [.yld id] 1) :: (Blk.lp env0 [8] asg110_0 body110_0 false none) :: (suf2 ++ [(Blk.live [encP p] 7)])))) ++ (Blk.lp env2 [12] asg110_1 body110_1 false none) :: (ext ++ ext5) by simp]
            exact get_mid _ _ _ (by simp; omega)
          refine YEnd_lp n1 ?_
          refine hk4' _ ⟨pre5, ext ++ ext5, ?_, hl5, hj5, fun s hs => hin s (by simp [hs])⟩
          dsimp only
          rw [hs3, show pre5 ++ (suf ++ ((Blk.live [.yld id] 1) :: (Blk.lp env0 [8] asg110_0 body110_0 false none) :: (suf2 ++ ((Blk.live [encP p] 7) :: (Blk.lp env2 [12] asg110_1 body110_1 false none) :: ext))) ++ ext5) = (pre5 ++ (suf ++ ((Blk.live [.yld id] 1) :: (Blk.lp env0 [8] asg110_0 body110_0 false none) :: (suf2 ++ [(Blk.live [encP p] 7)])))) ++ (Blk.lp env2 [12] asg110_1 body110_1 false none) :: (ext ++ ext5) by simp, set_mid _ _ _ _ (by simp; omega)]
          simp
        · rintro m ⟨pre', ext, rfl, hl, hj', _⟩
          exact hK3 pre' ext hl hj'
      have hlen3 : (bl2 ++ [Blk.live [encP p] 7]).length = r + 1 := by rw [List.length_append, hl2]; rfl
      rw [hlen3]
      refine hinit2 _ (by simp only [go_sem, Nat.reduceEqDiff, Nat.reduceAdd, Nat.reduceLT, Nat.reduceLeDiff, reduceIte, v2]) (by simp only [go_sem, Nat.reduceEqDiff, Nat.reduceAdd, Nat.reduceLT, Nat.reduceLeDiff, reduceIte, v3]) (by simp only [go_sem, Nat.reduceEqDiff, Nat.reduceAdd, Nat.reduceLT, Nat.reduceLeDiff, reduceIte, v4]) (by simp only [go_sem, Nat.reduceEqDiff, Nat.reduceAdd, Nat.reduceLT, Nat.reduceLeDiff, reduceIte]) _ fun pre' ext hl hj' => ?_
      refine RgEnd_lp (by
        rw [show ∀ b c : Blk, pre' ++ (suf ++ ((Blk.live [.yld id] 1) :: (Blk.lp env0 [8] asg110_0 body110_0 false none) :: (suf2 ++ (b :: c :: ext)))) = (pre' ++ (suf ++ ((Blk.live [.yld id] 1) :: (Blk.lp env0 [8] asg110_0 body110_0 false none) :: (suf2 ++ [b])))) ++ c :: ext from fun b c => by simp]
        exact get_mid _ _ _ (by simp; omega)) ?_
      rw [show ∀ b c d : Blk, (pre' ++ (suf ++ ((Blk.live [.yld id] 1) :: (Blk.lp env0 [8] asg110_0 body110_0 false none) :: (suf2 ++ (b :: c :: ext))))).set (r + 1) d = pre' ++ (suf ++ ((Blk.live [.yld id] 1) :: (Blk.lp env0 [8] asg110_0 body110_0 false none) :: (suf2 ++ (b :: d :: ext)))) from fun b c d => by
        rw [show pre' ++ (suf ++ ((Blk.live [.yld id] 1) :: (Blk.lp env0 [8] asg110_0 body110_0 false none) :: (suf2 ++ (b :: c :: ext)))) = (pre' ++ (suf ++ ((Blk.live [.yld id] 1) :: (Blk.lp env0 [8] asg110_0 body110_0 false none) :: (suf2 ++ [b])))) ++ c :: ext by simp, set_mid _ _ _ _ (by simp; omega)]
        simp]
      simp only [go_sem, Nat.reduceEqDiff, Nat.reduceAdd, Nat.reduceLT, Nat.reduceLeDiff, reduceIte]
      refine YEnd_lp (r := false) (p := none) (env := env0) (ps := [8]) (asg := asg110_0) (body' := body110_0) (by
        rw [show ∀ x : List Blk, pre' ++ (suf ++ ((Blk.live [.yld id] 1) :: (Blk.lp env0 [8] asg110_0 body110_0 false none) :: x)) = (pre' ++ (suf ++ [(Blk.live [.yld id] 1)])) ++ (Blk.lp env0 [8] asg110_0 body110_0 false none) :: x from fun x => by simp]
        exact get_mid _ _ _ (by simp; omega)) ?_
      dsimp only
      rw [show ∀ x : List Blk, (pre' ++ (suf ++ ((Blk.live [.yld id] 1) :: (Blk.lp env0 [8] asg110_0 body110_0 false none) :: (suf2 ++ x)))).set (q + 1) (.lp env0 [8] asg110_0 body110_0 true none) = (pre' ++ (suf ++ [(Blk.live [.yld id] 1), (Blk.lp env0 [8] asg110_0 body110_0 true none)])) ++ (suf2 ++ x) from fun x => by
        rw [show pre' ++ (suf ++ ((Blk.live [.yld id] 1) :: (Blk.lp env0 [8] asg110_0 body110_0 false none) :: (suf2 ++ x))) = (pre' ++ (suf ++ [(Blk.live [.yld id] 1)])) ++ (Blk.lp env0 [8] asg110_0 body110_0 false none) :: (suf2 ++ x) by simp, set_mid _ _ _ _ (by simp; omega)]
        simp]
      exact hk2 _ _ (by simp; omega) ⟨fun p hp => hok p (by simp [hp]), pre', rfl, hl, hj'⟩
    · rintro pre'' ext hlen ⟨_, pre1, rfl, hl, hj⟩
      rw [show pre1 ++ (suf ++ [(Blk.live [.yld id] 1), (Blk.lp env0 [8] asg110_0 body110_0 true none)]) ++ ([] ++ ext) = pre1 ++ (suf ++ ((Blk.live [.yld id] 1) :: (Blk.lp env0 [8] asg110_0 body110_0 true none) :: ext)) by simp]
      exact hK' pre1 ext hl hj
  have hql : (pre ++ suf).length = n + suf.length := by simp; omega
  have hql2 : (pre ++ suf ++ [Blk.live [.yld id] 1]).length = n + suf.length + 1 := by simp; omega
  rw [hql2]
  refine hinit _ (n + suf.length) rfl (by simp only [go_sem, Nat.reduceEqDiff, Nat.reduceAdd, Nat.reduceLT, Nat.reduceLeDiff, reduceIte]) (by simp only [go_sem, Nat.reduceEqDiff, Nat.reduceAdd, Nat.reduceLT, Nat.reduceLeDiff, reduceIte]) (by simp only [go_sem, Nat.reduceEqDiff, Nat.reduceAdd, Nat.reduceLT, Nat.reduceLeDiff, reduceIte, hql]) _ fun pre' ext hl hj => ?_
  refine RgEnd_lp (by
    rw [show ∀ b c : Blk, pre' ++ (suf ++ (b :: c :: ext)) = (pre' ++ (suf ++ [b])) ++ c :: ext from fun b c => by simp]
    exact get_mid _ _ _ (by simp; omega)) ?_
  rw [show ∀ b c d : Blk, (pre' ++ (suf ++ (b :: c :: ext))).set (n + suf.length + 1) d = pre' ++ (suf ++ (b :: d :: ext)) from fun b c d => by
    rw [show pre' ++ (suf ++ (b :: c :: ext)) = (pre' ++ (suf ++ [b])) ++ c :: ext by simp, set_mid _ _ _ _ (by simp; omega)]
    simp]
  simp only [go_sem, Nat.reduceEqDiff, Nat.reduceAdd, Nat.reduceLT, Nat.reduceLeDiff, reduceIte]
  exact hK pre' _ hl hj
end Go.Ab.T
end
