/-
  A part of the proofs over this seat.
  (The texts KcK29 KcK30, one behind the other.)
-/
import Derived.Test.YtaenhjnmmdaokaaP14
import Derived.Test.YtaenhjnmmdaokaaA0
set_option linter.unusedSimpArgs false
set_option linter.unusedVariables false
set_option linter.unusedSectionVars false
section
namespace Go.Ab.T
set_option maxRecDepth 8000
set_option maxHeartbeats 1000000
def cmpZ (a b : Int) : Int := if a < b then -1 else if b < a then 1 else 0
theorem isNaN_ok (a : Int) : RV ft 101 [I64 a] (.bool false) := by
  refine RV_of ft101 rfl ?_
  simp only [c101, r101]
  simp only [go_sem, Nat.reduceEqDiff, Nat.reduceAdd, Nat.reduceLT, Nat.reduceLeDiff, reduceIte, bne_self_eq_false]
theorem cmp_ok (a b : Int) : RV ft 92 [I64 a, I64 b] (I64 (cmpZ a b)) := by
  refine RV_of ft92 rfl ?_
  simp only [c92, r92]
  unfold cmpZ
  by_cases h1 : a < b
  · rw [if_pos h1]
    simp only [go_sem, Nat.reduceEqDiff, Nat.reduceAdd, Nat.reduceLT, Nat.reduceLeDiff, reduceIte, WB101, WVH_eq (isNaN_ok a), WVH_eq (isNaN_ok b), true_and, decide_eq_true h1]
  · rw [if_neg h1]
    by_cases h2 : b < a
    · rw [if_pos h2]
      simp only [go_sem, Nat.reduceEqDiff, Nat.reduceAdd, Nat.reduceLT, Nat.reduceLeDiff, reduceIte, WB101, WVH_eq (isNaN_ok a), WVH_eq (isNaN_ok b), true_and, decide_eq_false h1, decide_eq_true h2]
    · rw [if_neg h2]
      simp only [go_sem, Nat.reduceEqDiff, Nat.reduceAdd, Nat.reduceLT, Nat.reduceLeDiff, reduceIte, WB101, WVH_eq (isNaN_ok a), WVH_eq (isNaN_ok b), true_and, decide_eq_false h1, decide_eq_false h2]
def cmpL : List Int → List Int → Int
  | [], [] => 0
  | [], _ :: _ => -1
  | _ :: _, [] => 1
  | x :: r, y :: q => if cmpZ x y = 0 then cmpL r q else cmpZ x y
theorem Compare_ok (a b : List Int) (ha : a.length < 1073741824) (hb : b.length < 1073741824) : RV ft 82 [encIs a, encIs b] (I64 (cmpL a b)) := by
  refine RV_of ft82 rfl ?_
  simp only [c82, r82]
  simp only [go_sem, Nat.reduceEqDiff, Nat.reduceAdd, Nat.reduceLT, Nat.reduceLeDiff, reduceIte]
  refine WL_inv (α := Nat × List Int × List Int) (fun q e mm => e 0 = encIs a ∧ e 1 = encIs b ∧ e 9 = encIs a ∧ e 10 = I64 a.length ∧ e 11 = I64 q.1 ∧ a.drop q.1 = q.2.1 ∧ b.drop q.1 = q.2.2 ∧ (q.1 ≤ a.length ∧ q.1 ≤ b.length) ∧ cmpL q.2.1 q.2.2 = cmpL a b ∧ mm = ⟨[], []⟩) (fun q => q.2.1.length) (0, a, b) ?_ ?_
  · simp only [go_sem, Nat.reduceEqDiff, Nat.reduceAdd, Nat.reduceLT, Nat.reduceLeDiff, reduceIte]
    ((repeat' apply And.intro) <;> first | trivial | rfl | assumption | omega | (exact Nat.zero_le _))
  rintro ⟨k, r, q⟩ e m ⟨g0, g1, g9, g10, g11, hd, hd', hkb, hq, rfl⟩
  dsimp only at g11 hd hd' hkb hq
  cases r with
  | nil =>
    have h3 := drop_nil hd
    cases q with
    | nil =>
      have h4 := drop_nil hd'
      simp only [cmpL] at hq
      by_cases hl : a.length < b.length
      · omega
      · simp only [go_sem, Nat.reduceEqDiff, Nat.reduceAdd, Nat.reduceLT, Nat.reduceLeDiff, reduceIte, g0, g1, g9, g10, g11, dec_ge h3, decide_eq_false (show ¬ (a.length : Int) < (b.length : Int) by omega)]
        rw [← hq]
    | cons y q =>
      obtain ⟨_, _, h5⟩ := drop_cons hd'
      simp only [cmpL] at hq
      simp only [go_sem, Nat.reduceEqDiff, Nat.reduceAdd, Nat.reduceLT, Nat.reduceLeDiff, reduceIte, g0, g1, g9, g10, g11, dec_ge h3, decide_eq_true (show (a.length : Int) < (b.length : Int) by have := congrArg List.length hd; simp at this; omega)]
      rw [← hq]
  | cons x r =>
    obtain ⟨hk, hd2, hlt⟩ := drop_cons hd
    cases q with
    | nil =>
      have h4 := drop_nil hd'
      simp only [cmpL] at hq
      simp only [go_sem, Nat.reduceEqDiff, Nat.reduceAdd, Nat.reduceLT, Nat.reduceLeDiff, reduceIte, g0, g1, g9, g10, g11, dec_lt hlt, Is_idx hk, decide_eq_true (show (b.length : Int) ≤ (k : Int) by omega)]
      rw [← hq]
    | cons y q =>
      obtain ⟨hk', hd3, hlt'⟩ := drop_cons hd'
      simp only [cmpL] at hq
      by_cases hz : cmpZ x y = 0
      · rw [if_pos hz] at hq
        simp only [go_sem, Nat.reduceEqDiff, Nat.reduceAdd, Nat.reduceLT, Nat.reduceLeDiff, reduceIte, g0, g1, g9, g10, g11, dec_lt hlt, Is_idx hk, Is_idx hk', decide_eq_false (show ¬ (b.length : Int) ≤ (k : Int) by omega), WB92, WVH_eq (cmp_ok x y), true_and, hz, bne_self_eq_false, wrap_n1 k (by omega)]
        refine Nx_of (k + 1, r, q) (by simp) ?_
        simp only [go_sem, Nat.reduceEqDiff, Nat.reduceAdd, Nat.reduceLT, Nat.reduceLeDiff, reduceIte, g0, g1, g9, g10]
        ((repeat' apply And.intro) <;> first | trivial | rfl | assumption | omega | (exact hd2) | (exact hd3) | (exact hlt') | (exact hlt) | (exact hq))
      · rw [if_neg hz] at hq
        simp only [go_sem, Nat.reduceEqDiff, Nat.reduceAdd, Nat.reduceLT, Nat.reduceLeDiff, reduceIte, g0, g1, g9, g10, g11, dec_lt hlt, Is_idx hk, Is_idx hk', decide_eq_false (show ¬ (b.length : Int) ≤ (k : Int) by omega), WB92, WVH_eq (cmp_ok x y), true_and, bne_iff_ne.2 hz]
        rw [← hq]
theorem Clone_run (l : List Int) (hne : l ≠ []) (hl : l.length < 1000000) : WR ft (.f 63) [encIs l] .nil fun v m => v = .ref 0 0 l.length ∧ m = ⟨[.live (l.map I64) 1], []⟩ := by
  rw [WR_f ft63 rfl]
  simp only [c63, r63]
  simp only [go_sem, Nat.reduceEqDiff, Nat.reduceAdd, Nat.reduceLT, Nat.reduceLeDiff, reduceIte]
  refine W_nilq ?_
  simp only [go_sem, Nat.reduceEqDiff, Nat.reduceAdd, Nat.reduceLT, Nat.reduceLeDiff, reduceIte]
  cases l with
  | nil => exact absurd rfl hne
  | cons x r =>
    have ha : append0 ⟨[], []⟩ (.sl [] .tight) (encIs (x :: r)) 1 8 = some (.ref 0 0 (x :: r).length, ⟨[.live ((x :: r).map I64) 1], []⟩) := by
      simp only [append0, encIs, Mem.elems, List.length_map, Is_hd]
      rw [if_pos ⟨⟨by simp only [limit]; omega, trivial⟩, by simp⟩]
      rfl
    refine .inl ⟨I64 x, r.map I64, .unk, rfl, ?_⟩
    simp only [go_sem, Nat.reduceEqDiff, Nat.reduceAdd, Nat.reduceLT, Nat.reduceLeDiff, reduceIte, ha]
    exact ⟨rfl, rfl⟩
def keyC (c : Ctr) : List Int := c.so ++ [c.fi, c.la, c.vo, c.fl, c.ca]
theorem key79_ok (c : Ctr) (h1 : 1 ≤ c.so.length) (h3 : c.so.length ≤ 3) : RV ft 79 [encC c] (encIs (keyC c)) := by
  refine RV_of ft79 rfl ?_
  simp only [c79, r79]
  have hsh : (c.so.map I64).map (Ab.shift 1 0 12) = c.so.map I64 := by
    rw [List.map_map, show Ab.shift 1 0 12 ∘ I64 = I64 from funext fun _ => rfl]
  simp only [go_sem, Nat.reduceEqDiff, Nat.reduceAdd, Nat.reduceLT, Nat.reduceLeDiff, reduceIte, CCells, WB63]
  refine WR_mono (Clone_run c.so (by intro e; rw [e] at h1; simp at h1) (by omega)) fun v m h => ?_
  obtain ⟨rfl, rfl⟩ := h
  simp only [go_sem, Nat.reduceEqDiff, Nat.reduceAdd, Nat.reduceLT, Nat.reduceLeDiff, reduceIte, hotIs, joinMem]
  refine ⟨trivial, ?_⟩
  have happ : appendAt ⟨[.live [encC c] 6, .live (c.so.map I64) 1], []⟩ false (.ref (1 + 0) 0 c.so.length) (.sl [I64 c.fi, I64 c.la, I64 c.vo, I64 c.fl, I64 c.ca] .tight) 3 1 8 = some (.ref 2 0 (c.so.length + 5), ⟨[.live [encC c] 6, .dead, .live (c.so.map I64 ++ [I64 c.fi, I64 c.la, I64 c.vo, I64 c.fl, I64 c.ca]) 1], []⟩) := by
    have hz : hdSz [I64 c.fi, I64 c.la, I64 c.vo, I64 c.fl, I64 c.ca] 1 = true := rfl
    have hlm : (c.so.length + 5) * (8 + 1) ≤ limit := by unfold limit; omega
    simp only [appendAt, Mem.elems, hz]
    simp [hlm]
  have e : appendAt ⟨[.live [encC c] 6, shiftB 1 0 12 (.live (c.so.map I64) 1)], []⟩ false (Ab.shift 1 0 12 (.ref 0 0 c.so.length)) (.sl [I64 c.fi, I64 c.la, I64 c.vo, I64 c.fl, I64 c.ca] .tight) 3 1 8 = some (.ref 2 0 (c.so.length + 5), ⟨[.live [encC c] 6, .dead, .live (c.so.map I64 ++ [I64 c.fi, I64 c.la, I64 c.vo, I64 c.fl, I64 c.ca]) 1], []⟩) := by
    show appendAt ⟨[.live [encC c] 6, .live ((c.so.map I64).map (Ab.shift 1 0 12)) 1], []⟩ false (.ref (1 + 0) 0 c.so.length) (.sl [I64 c.fi, I64 c.la, I64 c.vo, I64 c.fl, I64 c.ca] .tight) 3 1 8 = _
    rw [hsh, happ]
  rw [e]
  simp only [go_sem, Nat.reduceEqDiff, Nat.reduceAdd, Nat.reduceLT, Nat.reduceLeDiff, reduceIte]
  have hk : c.so.map I64 ++ [I64 c.fi, I64 c.la, I64 c.vo, I64 c.fl, I64 c.ca] = (keyC c).map I64 := by unfold keyC; simp
  rw [if_pos (by simp), List.take_of_length_le (by simp), snEs_some, hk]
  show AV.sl (((keyC c).map I64).map (snap _ 11)) .unk = _
  rw [snI10 _ 10]
  rfl
theorem keyC_len (c : Ctr) : (keyC c).length = c.so.length + 5 := by unfold keyC; simp
theorem cmp81_ok {cs : List Ctr} (hcs : ∀ c ∈ cs, 1 ≤ c.so.length ∧ c.so.length ≤ 3) {a b : Nat} {ca cb : Ctr} (ha : cs[a]? = some ca) (hb : cs[b]? = some cb) :
    RV ft 81 [I64 (a : Int), I64 (b : Int), .pv (.fn 79 [] []) 0, .pv (encCs cs) 0] (I64 (cmpL (keyC ca) (keyC cb))) := by
  have h1 := hcs ca (List.mem_of_getElem? ha)
  have h2 := hcs cb (List.mem_of_getElem? hb)
  refine RV_of ft81 rfl ?_
  simp only [c81, r81]
  have fC : (AV.fn 79 [] []).cells = [.fn 79 [] []] := rfl
  simp only [go_sem, Nat.reduceEqDiff, Nat.reduceAdd, Nat.reduceLT, Nat.reduceLeDiff, reduceIte, fC, CsCells, Cs_idx ha, Cs_idx hb, CCells, CEta, List.nil_append, List.append_nil, WFH_eq ft79, WVH_eq (key79_ok ca h1.1 h1.2), WVH_eq (key79_ok cb h2.1 h2.2), true_and, WB82, WVH_eq (Compare_ok (keyC ca) (keyC cb) (by rw [keyC_len]; omega) (by rw [keyC_len]; omega))]
theorem swapP {α : Type} : ∀ {l : List α} {k : Nat} {x y : α}, l[k]? = some y → l[k + 1]? = some x → ((l.set (k + 1) y).set k x).Perm l
  | a :: b :: l, 0, x, y, h1, h2 => by
    simp at h1 h2; subst h1; subst h2
    exact List.Perm.swap _ _ _
  | a :: l, k + 1, x, y, h1, h2 => List.Perm.cons a (swapP (l := l) (k := k) (by simpa using h1) (by simpa using h2))
  | [], _, _, _, h1, _ => by simp at h1
  | [_], 0, _, _, _, h2 => by simp at h2
def natI (l : List Nat) : List AV := l.map fun n : Nat => I64 (n : Int)
theorem natI_get {l : List Nat} {k n : Nat} (h : l[k]? = some n) : (natI l)[k]? = some (I64 (n : Int)) := by unfold natI; rw [List.getElem?_map, h]; rfl
theorem ins_run {cs : List Ctr} (hcs : ∀ c ∈ cs, 1 ≤ c.so.length ∧ c.so.length ≤ 3) {n : Nat} (hn : n ≤ 1000) {l : List Nat} (hl : l.length = n) (hlt : ∀ x ∈ l, x < cs.length) {bl : List Blk} {tk : List (Nat × Nat)} {id : Nat} (h0 : bl[0]? = some (.live [encCs cs] 1)) (h1 : bl[1]? = some (.live [.fn 79 [] []] 1)) (hid : bl[id]? = some (.live (natI l) 1)) (hi2 : 2 ≤ id) {K : AV → Mem → Prop}
    (hK : ∀ l' : List Nat, l'.Perm l → K (.tup []) ⟨bl.set id (.live (natI l') 1), tk⟩) : WR ft (.f 99) [.ref id 0 n, I64 0, I64 (n : Int), .fn 81 [] [.ptr 1 0 0, .ptr 0 0 0]] ⟨bl, tk⟩ K := by
  rw [WR_f ft99 rfl]
  simp only [c99, r99]
  have hidl := (List.getElem?_eq_some_iff.1 hid).1
  have hset : bl.set id (.live (natI l) 1) = bl := by
    refine List.ext_getElem? fun i => ?_
    by_cases hi : id = i
    · subst hi; rw [List.getElem?_set_self hidl, hid]
    · rw [List.getElem?_set_ne hi]
  have b0 : ∀ B, (bl.set id B)[0]? = some (.live [encCs cs] 1) := fun B => by rw [List.getElem?_set_ne (by omega)]; exact h0
  have b1 : ∀ B, (bl.set id B)[1]? = some (.live [.fn 79 [] []] 1) := fun B => by rw [List.getElem?_set_ne (by omega)]; exact h1
  have bi : ∀ B, (bl.set id B)[id]? = some B := fun B => List.getElem?_set_self hidl
  have s0 : ∀ B, snap ⟨bl.set id B, tk⟩ 12 (.ptr 0 0 0) = .pv (encCs cs) 0 := fun B => by
    rw [snap_ptr]
    simp only [go_sem, Nat.reduceEqDiff, Nat.reduceAdd, Nat.reduceLT, Nat.reduceLeDiff, reduceIte, b0 B, snCs]
  have s1 : ∀ B, snap ⟨bl.set id B, tk⟩ 12 (.ptr 1 0 0) = .pv (.fn 79 [] []) 0 := fun B => by
    rw [snap_ptr]
    simp only [go_sem, Nat.reduceEqDiff, Nat.reduceAdd, Nat.reduceLT, Nat.reduceLeDiff, reduceIte, b1 B]
  simp only [go_sem, Nat.reduceEqDiff, Nat.reduceAdd, Nat.reduceLT, Nat.reduceLeDiff, reduceIte, wrap_i1 0 (by omega) (by omega)]
  refine WL_inv (α := Nat × List Nat) (fun q e mm => e 0 = .ref id 0 n ∧ e 1 = I64 0 ∧ e 2 = I64 n ∧ e 3 = .fn 81 [] [.ptr 1 0 0, .ptr 0 0 0] ∧ e 8 = I64 q.1 ∧ q.2.Perm l ∧ mm = ⟨bl.set id (.live (natI q.2) 1), tk⟩) (fun q => n - q.1) (1, l) ?_ ?_
  · simp only [go_sem, Nat.reduceEqDiff, Nat.reduceAdd, Nat.reduceLT, Nat.reduceLeDiff, reduceIte]
    refine ⟨by first | trivial | rfl, by first | trivial | rfl, by first | trivial | rfl, by first | trivial | rfl, rfl, List.Perm.refl _, by rw [hset]⟩
  rintro ⟨i, p⟩ e m ⟨g0, g1, g2, g3, g8, hp, rfl⟩
  dsimp only at g8 hp
  by_cases hin : i < n
  rotate_left
  · simp only [go_sem, Nat.reduceEqDiff, Nat.reduceAdd, Nat.reduceLT, Nat.reduceLeDiff, reduceIte, g0, g1, g2, g3, g8, dec_ge (show n ≤ i by omega)]
    exact hK p hp
  simp only [go_sem, Nat.reduceEqDiff, Nat.reduceAdd, Nat.reduceLT, Nat.reduceLeDiff, reduceIte, g0, g1, g2, g3, g8, dec_lt hin]
  refine WL_inv (α := Nat × List Nat) (fun q e mm => e 0 = .ref id 0 n ∧ e 1 = I64 0 ∧ e 2 = I64 n ∧ e 3 = .fn 81 [] [.ptr 1 0 0, .ptr 0 0 0] ∧ e 8 = I64 i ∧ e 9 = I64 q.1 ∧ q.1 ≤ i ∧ q.2.Perm l ∧ mm = ⟨bl.set id (.live (natI q.2) 1), tk⟩) (fun q => q.1) (i, p) ?_ ?_
  · simp only [go_sem, Nat.reduceEqDiff, Nat.reduceAdd, Nat.reduceLT, Nat.reduceLeDiff, reduceIte, g0, g1, g2, g3, g8]
    exact ⟨by first | trivial | rfl, by first | trivial | rfl, by first | trivial | rfl, by first | trivial | rfl, by first | trivial | rfl, by first | trivial | rfl, by first | trivial | exact Nat.le_refl _, hp, by first | trivial | rfl⟩
  clear g0 g1 g2 g3 g8 hp
  rintro ⟨j, p⟩ e m ⟨g0, g1, g2, g3, g8, g9, hji, hp, rfl⟩
  dsimp only at g9 hji hp
  cases j with
  | zero =>
    simp only [go_sem, Nat.reduceEqDiff, Nat.reduceAdd, Nat.reduceLT, Nat.reduceLeDiff, reduceIte, g0, g1, g2, g3, g8, g9, show decide ((0 : Int) < ((0 : Nat) : Int)) = false from rfl, wrap_n1 i (by omega)]
    refine Nx_of (i + 1, p) (by show n - (i + 1) < n - i; omega) ?_
    simp only [go_sem, Nat.reduceEqDiff, Nat.reduceAdd, Nat.reduceLT, Nat.reduceLeDiff, reduceIte, g0, g1, g2, g3]
    exact ⟨by first | trivial | rfl, by first | trivial | rfl, by first | trivial | rfl, by first | trivial | rfl, by first | trivial | rfl, hp, by first | trivial | rfl⟩
  | succ j =>
    have hpl : p.length = n := by rw [hp.length_eq, hl]
    obtain ⟨x, hx⟩ : ∃ x, p[j + 1]? = some x := ⟨_, List.getElem?_eq_getElem (by omega)⟩
    obtain ⟨y, hy⟩ : ∃ y, p[j]? = some y := ⟨_, List.getElem?_eq_getElem (by omega)⟩
    have hxl := hlt x (hp.mem_iff.1 (List.mem_of_getElem? hx))
    have hyl := hlt y (hp.mem_iff.1 (List.mem_of_getElem? hy))
    have hcm := cmp81_ok hcs (List.getElem?_eq_getElem hxl) (List.getElem?_eq_getElem hyl)
    generalize cmpL (keyC cs[x]) (keyC cs[y]) = w at hcm
    have hw1 : IntKind.i64.wrap (((j + 1 : Nat) : Int) - 1) = (j : Int) := by rw [wrap_i64 _ (by omega) (by omega)]; omega
    have f1 : idxAt ⟨bl.set id (.live (natI p) 1), tk⟩ (.ref id 0 n) (I64 ((j + 1 : Nat) : Int)) 1 = some (.ptr id (j + 1) 0) := idx_own (bi _) (by omega)
    have f2 : idxAt ⟨bl.set id (.live (natI p) 1), tk⟩ (.ref id 0 n) (I64 (j : Int)) 1 = some (.ptr id j 0) := idx_own (bi _) (by omega)
    have f3 : loadAt ⟨bl.set id (.live (natI p) 1), tk⟩ (.ptr id (j + 1) 0) none = some (I64 (x : Int)) := load_own (bi _) (natI_get hx) rfl
    have f4 : loadAt ⟨bl.set id (.live (natI p) 1), tk⟩ (.ptr id j 0) none = some (I64 (y : Int)) := load_own (bi _) (natI_get hy) rfl
    have hgt : decide ((0 : Int) < ((j + 1 : Nat) : Int)) = true := decide_eq_true (by omega)
    have hns : ∀ (p : List Nat) (k z : Nat), (natI p).set k (I64 (z : Int)) = natI (p.set k z) := fun p k z => by unfold natI; rw [List.map_set]
    have f5 : storeAt ⟨bl.set id (.live (natI p) 1), tk⟩ (.ptr id (j + 1) 0) (I64 (y : Int)) 1 = some ⟨bl.set id (.live (natI (p.set (j + 1) y)) 1), tk⟩ := by
      rw [store_own (es := natI p) (y := (x : Int)) (bi _) (natI_get hx), List.set_set, hns]
    have hy2 : (p.set (j + 1) y)[j]? = some y := by rw [List.getElem?_set_ne (by omega)]; exact hy
    have f6 : storeAt ⟨bl.set id (.live (natI (p.set (j + 1) y)) 1), tk⟩ (.ptr id j 0) (I64 (x : Int)) 1 = some ⟨bl.set id (.live (natI ((p.set (j + 1) y).set j x)) 1), tk⟩ := by
      rw [store_own (es := natI (p.set (j + 1) y)) (y := (y : Int)) (bi _) (natI_get hy2), List.set_set, hns]
    have f7 : idxAt ⟨bl.set id (.live (natI (p.set (j + 1) y)) 1), tk⟩ (.ref id 0 n) (I64 (j : Int)) 1 = some (.ptr id j 0) := idx_own (bi _) (by omega)
    have hsw := swapP hy hx
    by_cases hneg : w < 0
    rotate_left
    · simp only [go_sem, Nat.reduceEqDiff, Nat.reduceAdd, Nat.reduceLT, Nat.reduceLeDiff, reduceIte, g0, g1, g2, g3, g8, g9, hgt, f1, f2, f3, f4, hw1, List.nil_append, List.cons_append, WFH_eq ft81, s0, s1, WVH_eq hcm, decide_eq_false hneg, wrap_n1 i (by omega)]
      refine ⟨trivial, ?_⟩
      refine Nx_of (i + 1, p) (by show n - (i + 1) < n - i; omega) ?_
      simp only [go_sem, Nat.reduceEqDiff, Nat.reduceAdd, Nat.reduceLT, Nat.reduceLeDiff, reduceIte, g0, g1, g2, g3]
      exact ⟨by first | trivial | rfl, by first | trivial | rfl, by first | trivial | rfl, by first | trivial | rfl, by first | trivial | rfl, hp, by first | trivial | rfl⟩
    · simp only [go_sem, Nat.reduceEqDiff, Nat.reduceAdd, Nat.reduceLT, Nat.reduceLeDiff, reduceIte, g0, g1, g2, g3, g8, g9, hgt, f1, f2, f3, f4, hw1, List.nil_append, List.cons_append, WFH_eq ft81, s0, s1, WVH_eq hcm, decide_eq_true hneg, f5, f6, f7]
      refine ⟨trivial, ?_⟩
      refine Nx_of (j, (p.set (j + 1) y).set j x) (by show j < j + 1; omega) ?_
      simp only [go_sem, Nat.reduceEqDiff, Nat.reduceAdd, Nat.reduceLT, Nat.reduceLeDiff, reduceIte, g0, g1, g2, g3, g8]
      exact ⟨by first | trivial | rfl, by first | trivial | rfl, by first | trivial | rfl, by first | trivial | rfl, by first | trivial | rfl, by first | trivial | rfl, by show j ≤ i; omega, hsw.trans hp, by first | trivial | rfl⟩
theorem stab_run {cs : List Ctr} (hcs : ∀ c ∈ cs, 1 ≤ c.so.length ∧ c.so.length ≤ 3) {n : Nat} (hn : n ≤ 10) {l : List Nat} (hl : l.length = n) (hlt : ∀ x ∈ l, x < cs.length) {bl : List Blk} {tk : List (Nat × Nat)} {id : Nat} (h0 : bl[0]? = some (.live [encCs cs] 1)) (h1 : bl[1]? = some (.live [.fn 79 [] []] 1)) (hid : bl[id]? = some (.live (natI l) 1)) (hi2 : 2 ≤ id) {K : AV → Mem → Prop}
    (hK : ∀ l' : List Nat, l'.Perm l → K (.tup []) ⟨bl.set id (.live (natI l') 1), tk⟩) : WR ft (.f 91) [.ref id 0 n, I64 (n : Int), .fn 81 [] [.ptr 1 0 0, .ptr 0 0 0]] ⟨bl, tk⟩ K := by
  rw [WR_f ft91 rfl]
  simp only [c91, r91]
  simp only [go_sem, Nat.reduceEqDiff, Nat.reduceAdd, Nat.reduceLT, Nat.reduceLeDiff, reduceIte]
  refine WL_inv (α := Nat) (fun q e mm => e 0 = .ref id 0 n ∧ e 1 = I64 n ∧ e 2 = .fn 81 [] [.ptr 1 0 0, .ptr 0 0 0] ∧ e 6 = I64 20 ∧ e 7 = I64 0 ∧ e 8 = I64 20 ∧ mm = ⟨bl, tk⟩) (fun q => q) 0 ?_ ?_
  · simp only [go_sem, Nat.reduceEqDiff, Nat.reduceAdd, Nat.reduceLT, Nat.reduceLeDiff, reduceIte]
  rintro q e m ⟨g0, g1, g2, g6, g7, g8, rfl⟩
  simp only [go_sem, Nat.reduceEqDiff, Nat.reduceAdd, Nat.reduceLT, Nat.reduceLeDiff, reduceIte, g0, g1, g2, g6, g7, g8, decide_eq_false (show ¬ (20 : Int) ≤ (n : Int) by omega), WB99]
  refine ins_run hcs (by omega) hl hlt h0 h1 hid hi2 fun l' hp => ?_
  simp only [go_sem, Nat.reduceEqDiff, Nat.reduceAdd, Nat.reduceLT, Nat.reduceLeDiff, reduceIte, g0, g1, g2, g6, g7, g8]
  refine WL_inv (α := Nat) (fun q e mm => e 1 = I64 n ∧ e 6 = I64 20 ∧ mm = ⟨bl.set id (.live (natI l') 1), tk⟩) (fun q => q) 0 ?_ ?_
  · simp only [go_sem, Nat.reduceEqDiff, Nat.reduceAdd, Nat.reduceLT, Nat.reduceLeDiff, reduceIte, g1, g6]
  clear g0 g1 g2 g6 g7 g8
  rintro q e m ⟨g1, g6, rfl⟩
  simp only [go_sem, Nat.reduceEqDiff, Nat.reduceAdd, Nat.reduceLT, Nat.reduceLeDiff, reduceIte, g1, g6, decide_eq_false (show ¬ (20 : Int) < (n : Int) by omega)]
  exact hK l' hp
theorem sort_run {cs : List Ctr} (hcs : ∀ c ∈ cs, 1 ≤ c.so.length ∧ c.so.length ≤ 3) {n : Nat} (hn : n ≤ 10) {l : List Nat} (hl : l.length = n) (hlt : ∀ x ∈ l, x < cs.length) {bl : List Blk} {tk : List (Nat × Nat)} {id : Nat} (h0 : bl[0]? = some (.live [encCs cs] 1)) (h1 : bl[1]? = some (.live [.fn 79 [] []] 1)) (hid : bl[id]? = some (.live (natI l) 1)) (hi2 : 2 ≤ id) {K : AV → Mem → Prop}
    (hK : ∀ l' : List Nat, l'.Perm l → K (.tup []) ⟨bl.set id (.live (natI l') 1), tk⟩) : WR ft (.f 80) [.ref id 0 n, .fn 81 [] [.ptr 1 0 0, .ptr 0 0 0]] ⟨bl, tk⟩ K := by
  rw [WR_f ft80 rfl]
  simp only [c80, r80]
  simp only [go_sem, Nat.reduceEqDiff, Nat.reduceAdd, Nat.reduceLT, Nat.reduceLeDiff, reduceIte, hid, WB91]
  refine stab_run hcs hn hl hlt h0 h1 hid hi2 fun l' hp => ?_
  simp only [go_sem, Nat.reduceEqDiff, Nat.reduceAdd, Nat.reduceLT, Nat.reduceLeDiff, reduceIte]
  exact hK l' hp
end Go.Ab.T
end

section
namespace Go.Ab.T
set_option maxRecDepth 8000
set_option maxHeartbeats 1000000
theorem snNat (m : Mem) (q : Nat) (l : List Nat) : AV.sl ((natI l).map (snap m (q + 1))) .unk = encIs (l.map fun n : Nat => (n : Int)) := by
  unfold natI encIs
  rw [List.map_map, List.map_map]; rfl
theorem byContent_ok {cs : List Ctr} (hcs : ∀ c ∈ cs, 1 ≤ c.so.length ∧ c.so.length ≤ 3) (h1 : 1 ≤ cs.length) (hn : cs.length ≤ 10) : ∃ l' : List Nat, l'.Perm (List.range cs.length) ∧ RV ft 62 [encCs cs] (encIs (l'.map fun n : Nat => (n : Int))) := by
  have key : WR ft (.f 62) [encCs cs] .nil fun v m => ∃ l' : List Nat, l'.Perm (List.range cs.length) ∧ snap m dep v = encIs (l'.map fun n : Nat => (n : Int)) := by
    rw [WR_f ft62 rfl]
    simp only [c62, r62]
    have fC : (AV.fn 79 [] []).cells = [.fn 79 [] []] := rfl
    have nC : AV.nilf.cells = [.nilf] := rfl
    simp only [go_sem, Nat.reduceEqDiff, Nat.reduceAdd, Nat.reduceLT, Nat.reduceLeDiff, reduceIte, CsCells, fC, nC]
    obtain ⟨X, hX⟩ : ∃ X : List Blk, X = [.live [encCs cs] 1, .live [.fn 79 [] []] 1] := ⟨_, rfl⟩
    refine WL_inv (α := Nat × AV × List Blk) (fun q e mm => e 1 = .ptr 0 0 0 ∧ e 3 = .ptr 1 0 0 ∧ e 4 = q.2.1 ∧ e 7 = I64 cs.length ∧ e 8 = I64 q.1 ∧ q.1 ≤ cs.length ∧ OwnJ 2 (natI (List.range q.1)) q.2.1 q.2.2 ∧ mm = ⟨X ++ q.2.2, []⟩) (fun q => cs.length - q.1) (0, .sl [] .tight, []) ?_ ?_
    · simp only [go_sem, Nat.reduceEqDiff, Nat.reduceAdd, Nat.reduceLT, Nat.reduceLeDiff, reduceIte]
      exact ⟨by first | trivial | rfl, by first | trivial | rfl, by first | trivial | rfl, by first | trivial | rfl, by first | trivial | rfl, by first | trivial | exact Nat.zero_le _, .inl ⟨rfl, rfl⟩, by rw [hX]⟩
    rintro ⟨k, V, j⟩ e m ⟨g1, g3, g4, g7, g8, hk, hO, rfl⟩
    dsimp only at g4 g8 hk hO
    obtain ⟨a1, a2, a3⟩ := hO.cells
    by_cases hlt : k < cs.length
    · simp only [go_sem, Nat.reduceEqDiff, Nat.reduceAdd, Nat.reduceLT, Nat.reduceLeDiff, reduceIte, g1, g3, g4, g7, g8, dec_lt hlt]
      have hXl : X.length = 2 := by rw [hX]; rfl
      rw [List.append_assoc, List.length_append]
      have hO' : OwnJ X.length (natI (List.range k)) V j := by rw [hXl]; exact hO
      refine hO'.app rfl (by unfold natI; rw [List.length_map, List.length_range]; omega) (by decide) fun V' j' hV' => ?_
      rw [hXl] at hV'
      simp only [go_sem, Nat.reduceEqDiff, Nat.reduceAdd, Nat.reduceLT, Nat.reduceLeDiff, reduceIte, g1, g3, g7, g8, wrap_n1 k (by omega)]
      refine Nx_of (k + 1, V', j') (by show cs.length - (k + 1) < cs.length - k; omega) ?_
      simp only [go_sem, Nat.reduceEqDiff, Nat.reduceAdd, Nat.reduceLT, Nat.reduceLeDiff, reduceIte, g1, g3, g7]
      refine ⟨by first | trivial | rfl, by first | trivial | rfl, by first | trivial | rfl, by first | trivial | rfl, by first | trivial | rfl, hlt, ?_, by first | trivial | rfl⟩
      have e : natI (List.range (k + 1)) = natI (List.range k) ++ [I64 (k : Int)] := by unfold natI; rw [List.range_succ, List.map_append]; rfl
      first
        | (rw [e]; exact hV')
        | (rw [← List.range_succ, e]; exact hV')
    · have hke : k = cs.length := by omega
      subst hke
      have hnl : (natI (List.range cs.length)).length = cs.length := by unfold natI; rw [List.length_map, List.length_range]
      rcases hO with ⟨h4, _⟩ | ⟨_, q, rfl, h5⟩
      · have : cs.length = 0 := by rw [← hnl, h4]; rfl
        omega
      rw [hnl] at g4
      simp only [go_sem, Nat.reduceEqDiff, Nat.reduceAdd, Nat.reduceLT, Nat.reduceLeDiff, reduceIte, g1, g3, g4, g7, g8, dec_ge (Nat.le_refl cs.length), WB80]
      have hid : (X ++ j)[2 + q]? = some (.live (natI (List.range cs.length)) 1) := by rw [hX]; show (_ :: _ :: j)[2 + q]? = _; rw [show 2 + q = q + 1 + 1 by omega]; exact h5
      refine sort_run (cs := cs) hcs hn (by rw [List.length_range]) (fun x hx => List.mem_range.1 hx) (by rw [hX]; rfl) (by rw [hX]; rfl) hid (by omega) fun l' hp => ?_
      have hil := (List.getElem?_eq_some_iff.1 hid).1
      simp only [go_sem, Nat.reduceEqDiff, Nat.reduceAdd, Nat.reduceLT, Nat.reduceLeDiff, reduceIte, g1, g3, g4, g7, g8]
      refine ⟨l', hp, ?_⟩
      rw [List.getElem?_set_self hil]
      simp only [elBlk_live]
      have hl' : (natI l').length = cs.length := by unfold natI; rw [List.length_map, hp.length_eq, List.length_range]
      rw [if_pos (by omega), List.drop_zero, List.take_of_length_le (by omega), snEs_some]
      exact snNat _ _ l'
  obtain ⟨n, p, e1, l', hp, e2⟩ := key
  exact ⟨l', hp, n, by simp only [callV, e1, Option.map_some, e2]⟩
end Go.Ab.T
end
