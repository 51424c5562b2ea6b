/-
  A part of the proofs over this seat.
  (The texts KcK1 KcK2 KcK3, one behind the other.)
-/
import Derived.Test.YtaenhjnmmdaokaaT1
import Derived.Test.YtaenhjnmmdaokaaP1
import Derived.KernelRfl
set_option linter.unusedSimpArgs false
set_option linter.unusedVariables false
set_option linter.unusedSectionVars false
section
namespace Go.Ab.T
set_option maxRecDepth 8000
set_option maxHeartbeats 4000000
theorem wrap_n1 (k : Nat) (h : k < 4611686018427387904) : IntKind.i64.wrap ((k : Int) + 1) = ((k + 1 : Nat) : Int) := by rw [wrap_i64 _ (by omega) (by omega)]; omega
theorem wrap_i1 (k : Int) (h0 : -4611686018427387904 < k) (h : k < 4611686018427387904) : IntKind.i64.wrap (k + 1) = k + 1 := wrap_i64 _ (by omega) (by omega)
def encV (t : V3) : AV := .agg [I64 t.x, I64 t.y, I64 t.z]
theorem VCells (t : V3) : (encV t).cells = [I64 t.x, I64 t.y, I64 t.z] := rfl
theorem VEta (t : V3) : AV.agg [I64 t.x, I64 t.y, I64 t.z] = encV t := rfl
theorem snV (m : Mem) (q : Nat) (t : V3) : snap m (q + 2) (encV t) = encV t := rfl
theorem hotV (q : Nat) (t : V3) : hot (q + 2) (encV t) = false := rfl
theorem VAgg (t : V3) : (encV t).isAgg = true := rfl
def encCh (c : Ch) : AV := .agg [I64 c.t.x, I64 c.t.y, I64 c.t.z, I64 c.f, I64 c.m]
theorem ChCells (c : Ch) : (encCh c).cells = [I64 c.t.x, I64 c.t.y, I64 c.t.z, I64 c.f, I64 c.m] := rfl
theorem ChEta (c : Ch) : AV.agg [I64 c.t.x, I64 c.t.y, I64 c.t.z, I64 c.f, I64 c.m] = encCh c := rfl
theorem snCh (m : Mem) (q : Nat) (c : Ch) : snap m (q + 2) (encCh c) = encCh c := rfl
theorem hotCh (q : Nat) (c : Ch) : hot (q + 2) (encCh c) = false := rfl
def encS (a b : Int) : AV := .agg [I64 a, I64 b]
def encIs (l : List (Int)) : AV := .sl (l.map I64) .unk
theorem IsCells (l : List (Int)) : (encIs l).cells = [encIs l] := rfl
theorem IsSolid (l : List (Int)) : (encIs l).solid = true := rfl
theorem IsAgg (l : List (Int)) : (encIs l).isAgg = false := rfl
theorem IsNil : AV.sl [] .unk = encIs [] := rfl
theorem Is_len (m : Mem) (l : List (Int)) : lenAt m (encIs l) = some (I64 l.length) := by unfold encIs; rw [lenAt_sl, List.length_map]
theorem Is_get (l : List (Int)) (k : Nat) : (l.map I64)[k]? = l[k]?.map I64 := List.getElem?_map
theorem Is_idx {l : List (Int)} {k : Nat} {x : Int} (h : l[k]? = some x) (m : Mem) : idxAt m (encIs l) (I64 (k : Int)) 1 = some (.pv (I64 x) 0) := by
  unfold encIs
  rw [idxAt_sl, if_pos (by omega), Int.toNat_natCast, Is_get, h]
  rfl
theorem Is_idxI {l : List (Int)} {n : Int} {x : Int} (h0 : 0 ≤ n) (h : l[n.toNat]? = some x) (m : Mem) : idxAt m (encIs l) (I64 n) 1 = some (.pv (I64 x) 0) := by
  have := Is_idx h m
  rwa [Int.toNat_of_nonneg h0] at this
theorem snIs (m : Mem) (q : Nat) (l : List (Int)) : snap m (q + 2) (encIs l) = encIs l := by
  show AV.sl ((l.map I64).map (snap m (q + 1))) .unk = _
  rw [List.map_map, show snap m (q + 1) ∘ I64 = I64 from funext (fun _ => rfl)]; rfl
theorem hotIs (q : Nat) (l : List (Int)) : hot (q + 2) (encIs l) = false := by
  show (l.map I64).any (hot (q + 1)) = false
  rw [List.any_map, List.any_eq_false]; intro x _; simp only [Function.comp]; rw [show hot (q + 1) (I64 x) = false from rfl]; decide
theorem Is_hd (l : List (Int)) : hdSz (l.map I64) 1 = true := hdSz_map' I64 1 l fun _ => rfl
theorem cellsIs (l : List (Int)) : ∀ e ∈ l.map I64, e.cells.length = 1 := fun e he => by
  obtain ⟨x, _, rfl⟩ := List.mem_map.1 he; rfl
def encVs (l : List (V3)) : AV := .sl (l.map encV) .unk
theorem VsCells (l : List (V3)) : (encVs l).cells = [encVs l] := rfl
theorem VsSolid (l : List (V3)) : (encVs l).solid = true := rfl
theorem VsAgg (l : List (V3)) : (encVs l).isAgg = false := rfl
theorem VsNil : AV.sl [] .unk = encVs [] := rfl
theorem Vs_len (m : Mem) (l : List (V3)) : lenAt m (encVs l) = some (I64 l.length) := by unfold encVs; rw [lenAt_sl, List.length_map]
theorem Vs_get (l : List (V3)) (k : Nat) : (l.map encV)[k]? = l[k]?.map encV := List.getElem?_map
theorem Vs_idx {l : List (V3)} {k : Nat} {x : V3} (h : l[k]? = some x) (m : Mem) : idxAt m (encVs l) (I64 (k : Int)) 3 = some (.pv (encV x) 0) := by
  unfold encVs
  rw [idxAt_sl, if_pos (by omega), Int.toNat_natCast, Vs_get, h]
  rfl
theorem Vs_idxI {l : List (V3)} {n : Int} {x : V3} (h0 : 0 ≤ n) (h : l[n.toNat]? = some x) (m : Mem) : idxAt m (encVs l) (I64 n) 3 = some (.pv (encV x) 0) := by
  have := Vs_idx h m
  rwa [Int.toNat_of_nonneg h0] at this
theorem snVs (m : Mem) (q : Nat) (l : List (V3)) : snap m (q + 3) (encVs l) = encVs l := by
  show AV.sl ((l.map encV).map (snap m (q + 2))) .unk = _
  rw [List.map_map, show snap m (q + 2) ∘ encV = encV from funext (fun t => snV m q t)]; rfl
theorem hotVs (q : Nat) (l : List (V3)) : hot (q + 3) (encVs l) = false := by
  show (l.map encV).any (hot (q + 2)) = false
  rw [List.any_map, List.any_eq_false]; intro x _; simp only [Function.comp]; rw [show hot (q + 2) (encV x) = false from hotV q x]; decide
theorem Vs_hd (l : List (V3)) : hdSz (l.map encV) 3 = true := hdSz_map' encV 3 l fun _ => rfl
theorem cellsVs (l : List (V3)) : ∀ e ∈ l.map encV, e.cells.length = 3 := fun e he => by
  obtain ⟨x, _, rfl⟩ := List.mem_map.1 he; rfl
def encChs (l : List (Ch)) : AV := .sl (l.map encCh) .unk
theorem ChsCells (l : List (Ch)) : (encChs l).cells = [encChs l] := rfl
theorem ChsSolid (l : List (Ch)) : (encChs l).solid = true := rfl
theorem ChsAgg (l : List (Ch)) : (encChs l).isAgg = false := rfl
theorem ChsNil : AV.sl [] .unk = encChs [] := rfl
theorem Chs_len (m : Mem) (l : List (Ch)) : lenAt m (encChs l) = some (I64 l.length) := by unfold encChs; rw [lenAt_sl, List.length_map]
theorem Chs_get (l : List (Ch)) (k : Nat) : (l.map encCh)[k]? = l[k]?.map encCh := List.getElem?_map
theorem Chs_idx {l : List (Ch)} {k : Nat} {x : Ch} (h : l[k]? = some x) (m : Mem) : idxAt m (encChs l) (I64 (k : Int)) 5 = some (.pv (encCh x) 0) := by
  unfold encChs
  rw [idxAt_sl, if_pos (by omega), Int.toNat_natCast, Chs_get, h]
  rfl
theorem Chs_idxI {l : List (Ch)} {n : Int} {x : Ch} (h0 : 0 ≤ n) (h : l[n.toNat]? = some x) (m : Mem) : idxAt m (encChs l) (I64 n) 5 = some (.pv (encCh x) 0) := by
  have := Chs_idx h m
  rwa [Int.toNat_of_nonneg h0] at this
theorem snChs (m : Mem) (q : Nat) (l : List (Ch)) : snap m (q + 3) (encChs l) = encChs l := by
  show AV.sl ((l.map encCh).map (snap m (q + 2))) .unk = _
  rw [List.map_map, show snap m (q + 2) ∘ encCh = encCh from funext (fun t => snCh m q t)]; rfl
theorem hotChs (q : Nat) (l : List (Ch)) : hot (q + 3) (encChs l) = false := by
  show (l.map encCh).any (hot (q + 2)) = false
  rw [List.any_map, List.any_eq_false]; intro x _; simp only [Function.comp]; rw [show hot (q + 2) (encCh x) = false from hotCh q x]; decide
theorem Chs_hd (l : List (Ch)) : hdSz (l.map encCh) 5 = true := hdSz_map' encCh 5 l fun _ => rfl
theorem cellsChs (l : List (Ch)) : ∀ e ∈ l.map encCh, e.cells.length = 5 := fun e he => by
  obtain ⟨x, _, rfl⟩ := List.mem_map.1 he; rfl
def encIss (l : List (List Int)) : AV := .sl (l.map encIs) .unk
theorem IssCells (l : List (List Int)) : (encIss l).cells = [encIss l] := rfl
theorem IssSolid (l : List (List Int)) : (encIss l).solid = true := rfl
theorem IssAgg (l : List (List Int)) : (encIss l).isAgg = false := rfl
theorem IssNil : AV.sl [] .unk = encIss [] := rfl
theorem Iss_len (m : Mem) (l : List (List Int)) : lenAt m (encIss l) = some (I64 l.length) := by unfold encIss; rw [lenAt_sl, List.length_map]
theorem Iss_get (l : List (List Int)) (k : Nat) : (l.map encIs)[k]? = l[k]?.map encIs := List.getElem?_map
theorem Iss_idx {l : List (List Int)} {k : Nat} {x : List Int} (h : l[k]? = some x) (m : Mem) : idxAt m (encIss l) (I64 (k : Int)) 1 = some (.pv (encIs x) 0) := by
  unfold encIss
  rw [idxAt_sl, if_pos (by omega), Int.toNat_natCast, Iss_get, h]
  rfl
theorem Iss_idxI {l : List (List Int)} {n : Int} {x : List Int} (h0 : 0 ≤ n) (h : l[n.toNat]? = some x) (m : Mem) : idxAt m (encIss l) (I64 n) 1 = some (.pv (encIs x) 0) := by
  have := Iss_idx h m
  rwa [Int.toNat_of_nonneg h0] at this
theorem snIss (m : Mem) (q : Nat) (l : List (List Int)) : snap m (q + 3) (encIss l) = encIss l := by
  show AV.sl ((l.map encIs).map (snap m (q + 2))) .unk = _
  rw [List.map_map, show snap m (q + 2) ∘ encIs = encIs from funext (fun t => snIs m q t)]; rfl
theorem hotIss (q : Nat) (l : List (List Int)) : hot (q + 3) (encIss l) = false := by
  show (l.map encIs).any (hot (q + 2)) = false
  rw [List.any_map, List.any_eq_false]; intro x _; simp only [Function.comp]; rw [show hot (q + 2) (encIs x) = false from hotIs q x]; decide
theorem Iss_hd (l : List (List Int)) : hdSz (l.map encIs) 1 = true := hdSz_map' encIs 1 l fun _ => rfl
theorem cellsIss (l : List (List Int)) : ∀ e ∈ l.map encIs, e.cells.length = 1 := fun e he => by
  obtain ⟨x, _, rfl⟩ := List.mem_map.1 he; rfl
def encIsss (l : List (List (List Int))) : AV := .sl (l.map encIss) .unk
theorem IsssCells (l : List (List (List Int))) : (encIsss l).cells = [encIsss l] := rfl
theorem IsssSolid (l : List (List (List Int))) : (encIsss l).solid = true := rfl
theorem IsssAgg (l : List (List (List Int))) : (encIsss l).isAgg = false := rfl
theorem IsssNil : AV.sl [] .unk = encIsss [] := rfl
theorem Isss_len (m : Mem) (l : List (List (List Int))) : lenAt m (encIsss l) = some (I64 l.length) := by unfold encIsss; rw [lenAt_sl, List.length_map]
theorem Isss_get (l : List (List (List Int))) (k : Nat) : (l.map encIss)[k]? = l[k]?.map encIss := List.getElem?_map
theorem Isss_idx {l : List (List (List Int))} {k : Nat} {x : List (List Int)} (h : l[k]? = some x) (m : Mem) : idxAt m (encIsss l) (I64 (k : Int)) 1 = some (.pv (encIss x) 0) := by
  unfold encIsss
  rw [idxAt_sl, if_pos (by omega), Int.toNat_natCast, Isss_get, h]
  rfl
theorem Isss_idxI {l : List (List (List Int))} {n : Int} {x : List (List Int)} (h0 : 0 ≤ n) (h : l[n.toNat]? = some x) (m : Mem) : idxAt m (encIsss l) (I64 n) 1 = some (.pv (encIss x) 0) := by
  have := Isss_idx h m
  rwa [Int.toNat_of_nonneg h0] at this
theorem snIsss (m : Mem) (q : Nat) (l : List (List (List Int))) : snap m (q + 4) (encIsss l) = encIsss l := by
  show AV.sl ((l.map encIss).map (snap m (q + 3))) .unk = _
  rw [List.map_map, show snap m (q + 3) ∘ encIss = encIss from funext (fun t => snIss m q t)]; rfl
theorem hotIsss (q : Nat) (l : List (List (List Int))) : hot (q + 4) (encIsss l) = false := by
  show (l.map encIss).any (hot (q + 3)) = false
  rw [List.any_map, List.any_eq_false]; intro x _; simp only [Function.comp]; rw [show hot (q + 3) (encIss x) = false from hotIss q x]; decide
theorem Isss_hd (l : List (List (List Int))) : hdSz (l.map encIss) 1 = true := hdSz_map' encIss 1 l fun _ => rfl
theorem cellsIsss (l : List (List (List Int))) : ∀ e ∈ l.map encIss, e.cells.length = 1 := fun e he => by
  obtain ⟨x, _, rfl⟩ := List.mem_map.1 he; rfl
def encChss (l : List (List Ch)) : AV := .sl (l.map encChs) .unk
theorem ChssCells (l : List (List Ch)) : (encChss l).cells = [encChss l] := rfl
theorem ChssSolid (l : List (List Ch)) : (encChss l).solid = true := rfl
theorem ChssAgg (l : List (List Ch)) : (encChss l).isAgg = false := rfl
theorem ChssNil : AV.sl [] .unk = encChss [] := rfl
theorem Chss_len (m : Mem) (l : List (List Ch)) : lenAt m (encChss l) = some (I64 l.length) := by unfold encChss; rw [lenAt_sl, List.length_map]
theorem Chss_get (l : List (List Ch)) (k : Nat) : (l.map encChs)[k]? = l[k]?.map encChs := List.getElem?_map
theorem Chss_idx {l : List (List Ch)} {k : Nat} {x : List Ch} (h : l[k]? = some x) (m : Mem) : idxAt m (encChss l) (I64 (k : Int)) 1 = some (.pv (encChs x) 0) := by
  unfold encChss
  rw [idxAt_sl, if_pos (by omega), Int.toNat_natCast, Chss_get, h]
  rfl
theorem Chss_idxI {l : List (List Ch)} {n : Int} {x : List Ch} (h0 : 0 ≤ n) (h : l[n.toNat]? = some x) (m : Mem) : idxAt m (encChss l) (I64 n) 1 = some (.pv (encChs x) 0) := by
  have := Chss_idx h m
  rwa [Int.toNat_of_nonneg h0] at this
theorem snChss (m : Mem) (q : Nat) (l : List (List Ch)) : snap m (q + 4) (encChss l) = encChss l := by
  show AV.sl ((l.map encChs).map (snap m (q + 3))) .unk = _
  rw [List.map_map, show snap m (q + 3) ∘ encChs = encChs from funext (fun t => snChs m q t)]; rfl
theorem hotChss (q : Nat) (l : List (List Ch)) : hot (q + 4) (encChss l) = false := by
  show (l.map encChs).any (hot (q + 3)) = false
  rw [List.any_map, List.any_eq_false]; intro x _; simp only [Function.comp]; rw [show hot (q + 3) (encChs x) = false from hotChs q x]; decide
theorem Chss_hd (l : List (List Ch)) : hdSz (l.map encChs) 1 = true := hdSz_map' encChs 1 l fun _ => rfl
theorem cellsChss (l : List (List Ch)) : ∀ e ∈ l.map encChs, e.cells.length = 1 := fun e he => by
  obtain ⟨x, _, rfl⟩ := List.mem_map.1 he; rfl
def encC (c : Ctr) : AV := .agg [encIs c.so, I64 c.fi, I64 c.la, I64 c.vo, I64 c.fl, I64 c.ca]
theorem CCells (c : Ctr) : (encC c).cells = [encIs c.so, I64 c.fi, I64 c.la, I64 c.vo, I64 c.fl, I64 c.ca] := rfl
theorem CEta (c : Ctr) : AV.agg [encIs c.so, I64 c.fi, I64 c.la, I64 c.vo, I64 c.fl, I64 c.ca] = encC c := rfl
theorem snC (m : Mem) (q : Nat) (c : Ctr) : snap m (q + 3) (encC c) = encC c := by
  show AV.agg [snap m (q + 2) (encIs c.so), I64 c.fi, I64 c.la, I64 c.vo, I64 c.fl, I64 c.ca] = _
  rw [snIs]; rfl
theorem hotC (q : Nat) (c : Ctr) : hot (q + 3) (encC c) = false := by
  show (hot (q + 2) (encIs c.so) || (false || (false || (false || (false || (false || false)))))) = false
  rw [hotIs]; rfl
def encCs (l : List (Ctr)) : AV := .sl (l.map encC) .unk
theorem CsCells (l : List (Ctr)) : (encCs l).cells = [encCs l] := rfl
theorem CsSolid (l : List (Ctr)) : (encCs l).solid = true := rfl
theorem CsAgg (l : List (Ctr)) : (encCs l).isAgg = false := rfl
theorem CsNil : AV.sl [] .unk = encCs [] := rfl
theorem Cs_len (m : Mem) (l : List (Ctr)) : lenAt m (encCs l) = some (I64 l.length) := by unfold encCs; rw [lenAt_sl, List.length_map]
theorem Cs_get (l : List (Ctr)) (k : Nat) : (l.map encC)[k]? = l[k]?.map encC := List.getElem?_map
theorem Cs_idx {l : List (Ctr)} {k : Nat} {x : Ctr} (h : l[k]? = some x) (m : Mem) : idxAt m (encCs l) (I64 (k : Int)) 6 = some (.pv (encC x) 0) := by
  unfold encCs
  rw [idxAt_sl, if_pos (by omega), Int.toNat_natCast, Cs_get, h]
  rfl
theorem Cs_idxI {l : List (Ctr)} {n : Int} {x : Ctr} (h0 : 0 ≤ n) (h : l[n.toNat]? = some x) (m : Mem) : idxAt m (encCs l) (I64 n) 6 = some (.pv (encC x) 0) := by
  have := Cs_idx h m
  rwa [Int.toNat_of_nonneg h0] at this
theorem snCs (m : Mem) (q : Nat) (l : List (Ctr)) : snap m (q + 4) (encCs l) = encCs l := by
  show AV.sl ((l.map encC).map (snap m (q + 3))) .unk = _
  rw [List.map_map, show snap m (q + 3) ∘ encC = encC from funext (fun t => snC m q t)]; rfl
theorem hotCs (q : Nat) (l : List (Ctr)) : hot (q + 4) (encCs l) = false := by
  show (l.map encC).any (hot (q + 3)) = false
  rw [List.any_map, List.any_eq_false]; intro x _; simp only [Function.comp]; rw [show hot (q + 3) (encC x) = false from hotC q x]; decide
theorem Cs_hd (l : List (Ctr)) : hdSz (l.map encC) 6 = true := hdSz_map' encC 6 l fun _ => rfl
theorem cellsCs (l : List (Ctr)) : ∀ e ∈ l.map encC, e.cells.length = 6 := fun e he => by
  obtain ⟨x, _, rfl⟩ := List.mem_map.1 he; rfl
def encE (v : Ev) : AV := .agg [encIs v.pr, encIs v.se, encIs v.st, encCs v.cs]
theorem ECells (v : Ev) : (encE v).cells = [encIs v.pr, encIs v.se, encIs v.st, encCs v.cs] := rfl
theorem EEta (v : Ev) : AV.agg [encIs v.pr, encIs v.se, encIs v.st, encCs v.cs] = encE v := rfl
theorem snE (m : Mem) (q : Nat) (v : Ev) : snap m (q + 5) (encE v) = encE v := by
  show AV.agg [snap m (q + 4) (encIs v.pr), snap m (q + 4) (encIs v.se), snap m (q + 4) (encIs v.st), snap m (q + 4) (encCs v.cs)] = _
  rw [snIs, snIs, snIs, snCs]; rfl
theorem hotE (q : Nat) (v : Ev) : hot (q + 5) (encE v) = false := by
  show (hot (q + 4) (encIs v.pr) || (hot (q + 4) (encIs v.se) || (hot (q + 4) (encIs v.st) || (hot (q + 4) (encCs v.cs) || false)))) = false
  rw [hotIs, hotIs, hotIs, hotCs]; rfl
attribute [go_sem] VCells VEta snV hotV VAgg ChCells ChEta snCh hotCh CCells CEta snC hotC ECells EEta snE hotE IsCells IsSolid IsAgg snIs hotIs Is_len VsCells VsSolid VsAgg snVs hotVs Vs_len ChsCells ChsSolid ChsAgg snChs hotChs Chs_len IssCells IssSolid IssAgg snIss hotIss Iss_len IsssCells IsssSolid IsssAgg snIsss hotIsss Isss_len ChssCells ChssSolid ChssAgg snChss hotChss Chss_len CsCells CsSolid CsAgg snCs hotCs Cs_len
/-- Counters whose numbers are small. -/
def CO' (c : Ctr) : Prop := (0 ≤ c.fi ∧ c.fi ≤ 9999) ∧ (0 ≤ c.la ∧ c.la ≤ 9999) ∧ (0 ≤ c.vo ∧ c.vo ≤ 20)
theorem CO.s {n : Nat} {c : Ctr} (h : CO n c) : CO' c := ⟨h.fi, h.la, h.vo⟩
theorem within_ok (n lo hi : Int) : RV ft 64 [I64 n, I64 lo, I64 hi] (.bool (inR n lo hi)) := by
  refine RV_of ft64 rfl ?_
  simp only [c64, r64]
  unfold inR
  cases h : decide (lo ≤ n) <;> simp only [go_sem, Nat.reduceEqDiff, Nat.reduceAdd, Nat.reduceLT, Nat.reduceLeDiff, reduceIte, h, ge_iff_le, Bool.true_and, Bool.false_and]
theorem isWithin_ok (n lo hi : Int) : RV ft 73 [I64 n, I64 lo, I64 hi] (.bool (inR n lo hi)) := by
  refine RV_of ft73 rfl ?_
  simp only [c73, r73]
  unfold inR
  cases h : decide (lo ≤ n) <;> simp only [go_sem, Nat.reduceEqDiff, Nat.reduceAdd, Nat.reduceLT, Nat.reduceLeDiff, reduceIte, h, Bool.true_and, Bool.false_and]
theorem Roll_ok {c : Ctr} (h : CO' c) : RV ft 26 [encC c] (I64 (roll c)) := by
  refine RV_of ft26 rfl ?_
  simp only [c26, r26]
  obtain ⟨h1, h2, h3⟩ := h
  have w1 : IntKind.i64.wrap (c.la - c.fi) = c.la - c.fi := wrap_i64 _ (by omega) (by omega)
  have w2 : IntKind.i64.wrap (c.la - c.fi - c.vo) = roll c := wrap_i64 _ (by omega) (by omega)
  simp only [go_sem, Nat.reduceEqDiff, Nat.reduceAdd, Nat.reduceLT, Nat.reduceLeDiff, reduceIte, w1, w2]
theorem roll_ok {c : Ctr} (h : CO' c) : RV ft 70 [encC c] (I64 (roll c)) := by
  refine RV_of ft70 rfl ?_
  simp only [c70, r70]
  obtain ⟨h1, h2, h3⟩ := h
  have w1 : IntKind.i64.wrap (c.la - c.fi) = c.la - c.fi := wrap_i64 _ (by omega) (by omega)
  have w2 : IntKind.i64.wrap (c.la - c.fi - c.vo) = roll c := wrap_i64 _ (by omega) (by omega)
  simp only [go_sem, Nat.reduceEqDiff, Nat.reduceAdd, Nat.reduceLT, Nat.reduceLeDiff, reduceIte, w1, w2]
theorem areAll_ok (l : List Int) (lo hi : Int) (hl : l.length < 1073741824) : RV ft 54 [encIs l, I64 lo, I64 hi] (.bool (allR l lo hi)) := by
  refine RV_of ft54 rfl ?_
  simp only [c54, r54]
  simp only [go_sem, Nat.reduceEqDiff, Nat.reduceAdd, Nat.reduceLT, Nat.reduceLeDiff, reduceIte]
  refine WL_inv (α := Nat × List Int) (fun q e m => e 0 = encIs l ∧ e 1 = I64 lo ∧ e 2 = I64 hi ∧ e 7 = I64 q.1 ∧ l.drop q.1 = q.2 ∧ allR q.2 lo hi = allR l lo hi ∧ m = .nil) (fun q => q.2.length) (0, l) ?_ ?_
  · simp only [go_sem, Nat.reduceEqDiff, Nat.reduceAdd, Nat.reduceLT, Nat.reduceLeDiff, reduceIte]
    ((repeat' apply And.intro) <;> first | trivial | rfl | assumption | omega)
  rintro ⟨k, r⟩ e m ⟨g0, g1, g2, g7, hd, ha, rfl⟩
  dsimp only at g7 hd ha
  cases r with
  | nil =>
    have h3 := drop_nil hd
    simp only [go_sem, Nat.reduceEqDiff, Nat.reduceAdd, Nat.reduceLT, Nat.reduceLeDiff, reduceIte, g0, g1, g2, g7, dec_ge h3]
    rw [← ha]; rfl
  | cons x r =>
    obtain ⟨hk, hd2, hlt⟩ := drop_cons hd
    cases hx : inR x lo hi
    · simp only [go_sem, Nat.reduceEqDiff, Nat.reduceAdd, Nat.reduceLT, Nat.reduceLeDiff, reduceIte, g0, g1, g2, g7, dec_lt hlt, Is_idx hk, WB64, WVH_eq (within_ok _ _ _), true_and, hx]
      rw [← ha]; simp [allR, hx]
    · simp only [go_sem, Nat.reduceEqDiff, Nat.reduceAdd, Nat.reduceLT, Nat.reduceLeDiff, reduceIte, g0, g1, g2, g7, dec_lt hlt, Is_idx hk, WB64, WVH_eq (within_ok _ _ _), true_and, hx, wrap_n1 k (by omega)]
      refine Nx_of (k + 1, r) (by simp) ?_
      simp only [go_sem, Nat.reduceEqDiff, Nat.reduceAdd, Nat.reduceLT, Nat.reduceLeDiff, reduceIte, g0, g1, g2]
      ((repeat' apply And.intro) <;> first | trivial | rfl | assumption | omega | (rw [← ha]; simp [allR, hx]))
theorem isA_run (n lo hi : Int) : RV ft 94 [I64 n, .pv (I64 lo) 0, .pv (I64 hi) 0] (.bool (!inR n lo hi)) := by
  refine RV_of ft94 rfl ?_
  simp only [c94, r94]
  simp only [go_sem, Nat.reduceEqDiff, Nat.reduceAdd, Nat.reduceLT, Nat.reduceLeDiff, reduceIte, WB73, WVH_eq (isWithin_ok _ _ _), true_and]
end Go.Ab.T
end

section
namespace Go.Ab.T
set_option maxRecDepth 8000
set_option maxHeartbeats 4000000
/-- The first place where something is so, -1 if there is none. -/
def idxP {α : Type} (p : α → Bool) : List α → Nat → Int
  | [], _ => -1
  | x :: r, k => if p x = true then (k : Int) else idxP p r (k + 1)
theorem idxP_any {α : Type} (p : α → Bool) : ∀ (l : List α) (k : Nat), decide (0 ≤ idxP p l k) = l.any p
  | [], k => rfl
  | x :: r, k => by
    unfold idxP
    cases h : p x
    · simp only [Bool.false_eq_true, if_false, List.any_cons, h, Bool.false_or]
      exact idxP_any p r (k + 1)
    · simp only [if_true, List.any_cons, h, Bool.true_or]
      exact decide_eq_true (by omega)
theorem not_any_not {α : Type} (p : α → Bool) (l : List α) : (!(l.any fun x => !p x)) = l.all p := by
  rw [List.all_eq_not_any_not]
theorem IndexFuncC_ok (l : List Ctr) (f : AV) (p : Ctr → Bool) (hl : l.length < 1073741824)
    (hf : ∀ x ∈ l, ∀ (e : Nat → AV) (m : Mem) (K : AV → St → Prop), K (.bool (p x)) ⟨e, m⟩ → @WZH ft f [encC x] ⟨e, m⟩ ⟨K⟩) : RV ft 95 [encCs l, f] (I64 (idxP p l 0)) := by
  refine RV_of ft95 rfl ?_
  simp only [c95, r95]
  simp only [go_sem, Nat.reduceEqDiff, Nat.reduceAdd, Nat.reduceLT, Nat.reduceLeDiff, reduceIte]
  refine WL_inv (α := Nat × List Ctr) (fun q e mm => e 0 = encCs l ∧ e 1 = f ∧ e 7 = I64 l.length ∧ e 8 = I64 q.1 ∧ l.drop q.1 = q.2 ∧ idxP p q.2 q.1 = idxP p l 0) (fun q => q.2.length) (0, l) ?_ ?_
  · simp only [go_sem, Nat.reduceEqDiff, Nat.reduceAdd, Nat.reduceLT, Nat.reduceLeDiff, reduceIte]
    ((repeat' apply And.intro) <;> first | trivial | rfl | omega | assumption)
  rintro ⟨k, r⟩ e m ⟨h0, h1, h7, h8, hd, hq⟩
  dsimp only at h8 hd hq
  cases r with
  | nil =>
    have h3 := drop_nil hd
    simp only [go_sem, Nat.reduceEqDiff, Nat.reduceAdd, Nat.reduceLT, Nat.reduceLeDiff, reduceIte, h0, h1, h7, h8, dec_ge h3]
    rw [← hq]; rfl
  | cons x r =>
    obtain ⟨hk, hd2, hlt⟩ := drop_cons hd
    simp only [go_sem, Nat.reduceEqDiff, Nat.reduceAdd, Nat.reduceLT, Nat.reduceLeDiff, reduceIte, h0, h1, h7, h8, dec_lt hlt, Cs_idx hk]
    refine hf x (List.mem_of_getElem? hk) _ _ _ ?_
    cases hx : p x
    · simp only [go_sem, Nat.reduceEqDiff, Nat.reduceAdd, Nat.reduceLT, Nat.reduceLeDiff, reduceIte, h0, h1, h7, h8, wrap_n1 k (by omega)]
      refine Nx_of (k + 1, r) (by simp) ?_
      simp only [go_sem, Nat.reduceEqDiff, Nat.reduceAdd, Nat.reduceLT, Nat.reduceLeDiff, reduceIte, h0, h1, h7]
      ((repeat' apply And.intro) <;> first | trivial | rfl | assumption | omega | (rw [← hq]; simp [idxP, hx]))
    · simp only [go_sem, Nat.reduceEqDiff, Nat.reduceAdd, Nat.reduceLT, Nat.reduceLeDiff, reduceIte, h0, h1, h7, h8]
      rw [← hq]; simp [idxP, hx]
theorem ContainsFuncC_ok (l : List Ctr) (f : AV) (p : Ctr → Bool) (hl : l.length < 1073741824) (hs : ∀ (m : Mem) (q : Nat), snap m (q + 10) f = f) (hh : ∀ q, hot (q + 10) f = false)
    (hf : ∀ x ∈ l, ∀ (e : Nat → AV) (m : Mem) (K : AV → St → Prop), K (.bool (p x)) ⟨e, m⟩ → @WZH ft f [encC x] ⟨e, m⟩ ⟨K⟩) : RV ft 84 [encCs l, f] (.bool (l.any p)) := by
  refine RV_of ft84 rfl ?_
  simp only [c84, r84]
  simp only [go_sem, Nat.reduceEqDiff, Nat.reduceAdd, Nat.reduceLT, Nat.reduceLeDiff, reduceIte, WB95, hs, hh, WVH_eq (IndexFuncC_ok l f p hl hf), true_and, idxP_any, ge_iff_le]
theorem IndexFuncI_ok (l : List Int) (f : AV) (p : Int → Bool) (hl : l.length < 1073741824)
    (hf : ∀ x ∈ l, ∀ (e : Nat → AV) (m : Mem) (K : AV → St → Prop), K (.bool (p x)) ⟨e, m⟩ → @WZH ft f [I64 x] ⟨e, m⟩ ⟨K⟩) : RV ft 102 [encIs l, f] (I64 (idxP p l 0)) := by
  refine RV_of ft102 rfl ?_
  simp only [c102, r102]
  simp only [go_sem, Nat.reduceEqDiff, Nat.reduceAdd, Nat.reduceLT, Nat.reduceLeDiff, reduceIte]
  refine WL_inv (α := Nat × List Int) (fun q e mm => e 0 = encIs l ∧ e 1 = f ∧ e 7 = I64 l.length ∧ e 8 = I64 q.1 ∧ l.drop q.1 = q.2 ∧ idxP p q.2 q.1 = idxP p l 0) (fun q => q.2.length) (0, l) ?_ ?_
  · simp only [go_sem, Nat.reduceEqDiff, Nat.reduceAdd, Nat.reduceLT, Nat.reduceLeDiff, reduceIte]
    ((repeat' apply And.intro) <;> first | trivial | rfl | omega | assumption)
  rintro ⟨k, r⟩ e m ⟨h0, h1, h7, h8, hd, hq⟩
  dsimp only at h8 hd hq
  cases r with
  | nil =>
    have h3 := drop_nil hd
    simp only [go_sem, Nat.reduceEqDiff, Nat.reduceAdd, Nat.reduceLT, Nat.reduceLeDiff, reduceIte, h0, h1, h7, h8, dec_ge h3]
    rw [← hq]; rfl
  | cons x r =>
    obtain ⟨hk, hd2, hlt⟩ := drop_cons hd
    simp only [go_sem, Nat.reduceEqDiff, Nat.reduceAdd, Nat.reduceLT, Nat.reduceLeDiff, reduceIte, h0, h1, h7, h8, dec_lt hlt, Is_idx hk]
    refine hf x (List.mem_of_getElem? hk) _ _ _ ?_
    cases hx : p x
    · simp only [go_sem, Nat.reduceEqDiff, Nat.reduceAdd, Nat.reduceLT, Nat.reduceLeDiff, reduceIte, h0, h1, h7, h8, wrap_n1 k (by omega)]
      refine Nx_of (k + 1, r) (by simp) ?_
      simp only [go_sem, Nat.reduceEqDiff, Nat.reduceAdd, Nat.reduceLT, Nat.reduceLeDiff, reduceIte, h0, h1, h7]
      ((repeat' apply And.intro) <;> first | trivial | rfl | assumption | omega | (rw [← hq]; simp [idxP, hx]))
    · simp only [go_sem, Nat.reduceEqDiff, Nat.reduceAdd, Nat.reduceLT, Nat.reduceLeDiff, reduceIte, h0, h1, h7, h8]
      rw [← hq]; simp [idxP, hx]
theorem ContainsFuncI_ok (l : List Int) (f : AV) (p : Int → Bool) (hl : l.length < 1073741824) (hs : ∀ (m : Mem) (q : Nat), snap m (q + 10) f = f) (hh : ∀ q, hot (q + 10) f = false)
    (hf : ∀ x ∈ l, ∀ (e : Nat → AV) (m : Mem) (K : AV → St → Prop), K (.bool (p x)) ⟨e, m⟩ → @WZH ft f [I64 x] ⟨e, m⟩ ⟨K⟩) : RV ft 93 [encIs l, f] (.bool (l.any p)) := by
  refine RV_of ft93 rfl ?_
  simp only [c93, r93]
  simp only [go_sem, Nat.reduceEqDiff, Nat.reduceAdd, Nat.reduceLT, Nat.reduceLeDiff, reduceIte, WB102, hs, hh, WVH_eq (IndexFuncI_ok l f p hl hf), true_and, idxP_any, ge_iff_le]
theorem IndexFuncH_ok (l : List Ch) (f : AV) (p : Ch → Bool) (hl : l.length < 1073741824)
    (hf : ∀ x ∈ l, ∀ (e : Nat → AV) (m : Mem) (K : AV → St → Prop), K (.bool (p x)) ⟨e, m⟩ → @WZH ft f [encCh x] ⟨e, m⟩ ⟨K⟩) : RV ft 78 [encChs l, f] (I64 (idxP p l 0)) := by
  refine RV_of ft78 rfl ?_
  simp only [c78, r78]
  simp only [go_sem, Nat.reduceEqDiff, Nat.reduceAdd, Nat.reduceLT, Nat.reduceLeDiff, reduceIte]
  refine WL_inv (α := Nat × List Ch) (fun q e mm => e 0 = encChs l ∧ e 1 = f ∧ e 7 = I64 l.length ∧ e 8 = I64 q.1 ∧ l.drop q.1 = q.2 ∧ idxP p q.2 q.1 = idxP p l 0) (fun q => q.2.length) (0, l) ?_ ?_
  · simp only [go_sem, Nat.reduceEqDiff, Nat.reduceAdd, Nat.reduceLT, Nat.reduceLeDiff, reduceIte]
    ((repeat' apply And.intro) <;> first | trivial | rfl | omega | assumption)
  rintro ⟨k, r⟩ e m ⟨h0, h1, h7, h8, hd, hq⟩
  dsimp only at h8 hd hq
  cases r with
  | nil =>
    have h3 := drop_nil hd
    simp only [go_sem, Nat.reduceEqDiff, Nat.reduceAdd, Nat.reduceLT, Nat.reduceLeDiff, reduceIte, h0, h1, h7, h8, dec_ge h3]
    rw [← hq]; rfl
  | cons x r =>
    obtain ⟨hk, hd2, hlt⟩ := drop_cons hd
    simp only [go_sem, Nat.reduceEqDiff, Nat.reduceAdd, Nat.reduceLT, Nat.reduceLeDiff, reduceIte, h0, h1, h7, h8, dec_lt hlt, Chs_idx hk]
    refine hf x (List.mem_of_getElem? hk) _ _ _ ?_
    cases hx : p x
    · simp only [go_sem, Nat.reduceEqDiff, Nat.reduceAdd, Nat.reduceLT, Nat.reduceLeDiff, reduceIte, h0, h1, h7, h8, wrap_n1 k (by omega)]
      refine Nx_of (k + 1, r) (by simp) ?_
      simp only [go_sem, Nat.reduceEqDiff, Nat.reduceAdd, Nat.reduceLT, Nat.reduceLeDiff, reduceIte, h0, h1, h7]
      ((repeat' apply And.intro) <;> first | trivial | rfl | assumption | omega | (rw [← hq]; simp [idxP, hx]))
    · simp only [go_sem, Nat.reduceEqDiff, Nat.reduceAdd, Nat.reduceLT, Nat.reduceLeDiff, reduceIte, h0, h1, h7, h8]
      rw [← hq]; simp [idxP, hx]
theorem ContainsFuncH_ok (l : List Ch) (f : AV) (p : Ch → Bool) (hl : l.length < 1073741824) (hs : ∀ (m : Mem) (q : Nat), snap m (q + 10) f = f) (hh : ∀ q, hot (q + 10) f = false)
    (hf : ∀ x ∈ l, ∀ (e : Nat → AV) (m : Mem) (K : AV → St → Prop), K (.bool (p x)) ⟨e, m⟩ → @WZH ft f [encCh x] ⟨e, m⟩ ⟨K⟩) : RV ft 52 [encChs l, f] (.bool (l.any p)) := by
  refine RV_of ft52 rfl ?_
  simp only [c52, r52]
  simp only [go_sem, Nat.reduceEqDiff, Nat.reduceAdd, Nat.reduceLT, Nat.reduceLeDiff, reduceIte, WB78, hs, hh, WVH_eq (IndexFuncH_ok l f p hl hf), true_and, idxP_any, ge_iff_le]
theorem areWithin_ok (l : List Int) (lo hi : Int) (hl : l.length < 1073741824) : RV ft 83 [encIs l, I64 lo, I64 hi] (.bool (allR l lo hi)) := by
  refine RV_of ft83 rfl ?_
  simp only [c83, r83]
  have hC := ContainsFuncI_ok l (.fn 94 [] [.pv (I64 lo) 0, .pv (I64 hi) 0]) (fun n => !inR n lo hi) hl (fun _ _ => rfl) (fun _ => rfl) (fun x _ e m K hK => by
    rw [WZH_fn]
    simp only [List.nil_append, List.cons_append]
    simp only [go_sem, Nat.reduceEqDiff, Nat.reduceAdd, Nat.reduceLT, Nat.reduceLeDiff, reduceIte, WFH_eq ft94, WVH_eq (isA_run _ _ _), true_and]
    exact hK)
  simp only [go_sem, Nat.reduceEqDiff, Nat.reduceAdd, Nat.reduceLT, Nat.reduceLeDiff, reduceIte, WB93, WVH_eq hC, true_and, not_any_not]
  rfl
theorem validCounter_ok (c : Ctr) (n : Int) (hl : c.so.length < 1073741824) : RV ft 86 [encC c, I64 n] (.bool (ctrOK n c)) := by
  refine RV_of ft86 rfl ?_
  simp only [c86, r86]
  unfold ctrOK
  have hE : AV.sl [I64 c.fi, I64 c.la, I64 c.fl, I64 c.ca] .unk = encIs [c.fi, c.la, c.fl, c.ca] := rfl
  cases h1 : ((c.so.length : Int) == n)
  · simp only [go_sem, Nat.reduceEqDiff, Nat.reduceAdd, Nat.reduceLT, Nat.reduceLeDiff, reduceIte, h1, Bool.false_and]
  cases h2 : allR c.so 0 20
  · simp only [go_sem, Nat.reduceEqDiff, Nat.reduceAdd, Nat.reduceLT, Nat.reduceLeDiff, reduceIte, h1, WB83, WVH_eq (areWithin_ok c.so 0 20 hl), true_and, h2, Bool.false_and, Bool.true_and]
  cases h3 : allR [c.fi, c.la, c.fl, c.ca] 0 9999
  · simp only [go_sem, Nat.reduceEqDiff, Nat.reduceAdd, Nat.reduceLT, Nat.reduceLeDiff, reduceIte, h1, WB83, WVH_eq (areWithin_ok c.so 0 20 hl), true_and, h2, Bool.false_and, Bool.true_and, hE, WVH_eq (areWithin_ok [c.fi, c.la, c.fl, c.ca] 0 9999 (by simp)), h3]
  cases h4 : inR c.vo 0 20
  · simp only [go_sem, Nat.reduceEqDiff, Nat.reduceAdd, Nat.reduceLT, Nat.reduceLeDiff, reduceIte, h1, WB83, WVH_eq (areWithin_ok c.so 0 20 hl), true_and, h2, Bool.false_and, Bool.true_and, hE, WVH_eq (areWithin_ok [c.fi, c.la, c.fl, c.ca] 0 9999 (by simp)), h3, WB73, WVH_eq (isWithin_ok _ _ _), h4]
  have hCO : CO' c := by
    have h3' := allR_iff.1 h3
    have h4' := inR_iff.1 h4
    exact ⟨h3' _ (by simp), h3' _ (by simp), h4'⟩
  simp only [go_sem, Nat.reduceEqDiff, Nat.reduceAdd, Nat.reduceLT, Nat.reduceLeDiff, reduceIte, h1, WB83, WVH_eq (areWithin_ok c.so 0 20 hl), true_and, h2, Bool.false_and, Bool.true_and, hE, WVH_eq (areWithin_ok [c.fi, c.la, c.fl, c.ca] 0 9999 (by simp)), h3, WB73, WVH_eq (isWithin_ok _ _ _), h4, WB70, WVH_eq (roll_ok hCO)]
theorem validE1_ok (c : Ctr) (n : Int) (hl : c.so.length < 1073741824) : RV ft 85 [encC c, .pv (I64 n) 0] (.bool (!ctrOK n c)) := by
  refine RV_of ft85 rfl ?_
  simp only [c85, r85]
  simp only [go_sem, Nat.reduceEqDiff, Nat.reduceAdd, Nat.reduceLT, Nat.reduceLeDiff, reduceIte, WB86, WVH_eq (validCounter_ok c n hl), true_and]
/-- Slices that are no longer than any memory. -/
structure SE (v : Ev) : Prop where
  p : v.pr.length < 1073741824
  s : v.se.length < 1073741824
  t : v.st.length < 1073741824
  n : v.cs.length < 1073741824
  c : ∀ c ∈ v.cs, c.so.length < 1073741824
theorem validEvening_ok (v : Ev) (h : SE v) : RV ft 65 [encE v] (.bool (evOK v)) := by
  refine RV_of ft65 rfl ?_
  simp only [c65, r65]
  unfold evOK
  have hC := ContainsFuncC_ok v.cs (.fn 85 [] [.pv (I64 v.pr.length) 0]) (fun c => !ctrOK v.pr.length c) h.n (fun _ _ => rfl) (fun _ => rfl) (fun x hx e m K hK => by
    rw [WZH_fn]
    simp only [List.nil_append, List.cons_append]
    simp only [go_sem, Nat.reduceEqDiff, Nat.reduceAdd, Nat.reduceLT, Nat.reduceLeDiff, reduceIte, WFH_eq ft85, WVH_eq (validE1_ok x _ (h.c x hx)), true_and]
    exact hK)
  cases h1 : inR v.pr.length 1 3
  · simp only [go_sem, Nat.reduceEqDiff, Nat.reduceAdd, Nat.reduceLT, Nat.reduceLeDiff, reduceIte, WB73, WVH_eq (isWithin_ok _ _ _), true_and, h1, Bool.false_and]
  cases h2 : ((v.se.length : Int) == v.pr.length)
  · simp only [go_sem, Nat.reduceEqDiff, Nat.reduceAdd, Nat.reduceLT, Nat.reduceLeDiff, reduceIte, WB73, WVH_eq (isWithin_ok _ _ _), true_and, h1, h2, Bool.false_and, Bool.true_and]
  cases h3 : ((v.st.length : Int) == v.pr.length)
  · simp only [go_sem, Nat.reduceEqDiff, Nat.reduceAdd, Nat.reduceLT, Nat.reduceLeDiff, reduceIte, WB73, WVH_eq (isWithin_ok _ _ _), true_and, h1, h2, h3, Bool.false_and, Bool.true_and]
  cases h4 : allR v.pr 1 50
  · simp only [go_sem, Nat.reduceEqDiff, Nat.reduceAdd, Nat.reduceLT, Nat.reduceLeDiff, reduceIte, WB73, WVH_eq (isWithin_ok _ _ _), true_and, h1, h2, h3, Bool.false_and, Bool.true_and, WB83, WVH_eq (areWithin_ok v.pr 1 50 h.p), h4]
  cases h5 : allR v.se 0 80
  · simp only [go_sem, Nat.reduceEqDiff, Nat.reduceAdd, Nat.reduceLT, Nat.reduceLeDiff, reduceIte, WB73, WVH_eq (isWithin_ok _ _ _), true_and, h1, h2, h3, Bool.false_and, Bool.true_and, WB83, WVH_eq (areWithin_ok v.pr 1 50 h.p), h4, WVH_eq (areWithin_ok v.se 0 80 h.s), h5]
  cases h6 : allR v.st 0 80
  · simp only [go_sem, Nat.reduceEqDiff, Nat.reduceAdd, Nat.reduceLT, Nat.reduceLeDiff, reduceIte, WB73, WVH_eq (isWithin_ok _ _ _), true_and, h1, h2, h3, Bool.false_and, Bool.true_and, WB83, WVH_eq (areWithin_ok v.pr 1 50 h.p), h4, WVH_eq (areWithin_ok v.se 0 80 h.s), h5, WVH_eq (areWithin_ok v.st 0 80 h.t), h6]
  cases h7 : inR v.cs.length 1 4
  · simp only [go_sem, Nat.reduceEqDiff, Nat.reduceAdd, Nat.reduceLT, Nat.reduceLeDiff, reduceIte, WB73, WVH_eq (isWithin_ok _ _ _), true_and, h1, h2, h3, Bool.false_and, Bool.true_and, WB83, WVH_eq (areWithin_ok v.pr 1 50 h.p), h4, WVH_eq (areWithin_ok v.se 0 80 h.s), h5, WVH_eq (areWithin_ok v.st 0 80 h.t), h6, h7]
  simp only [go_sem, Nat.reduceEqDiff, Nat.reduceAdd, Nat.reduceLT, Nat.reduceLeDiff, reduceIte, WB73, WVH_eq (isWithin_ok _ _ _), true_and, h1, h2, h3, Bool.false_and, Bool.true_and, WB83, WVH_eq (areWithin_ok v.pr 1 50 h.p), h4, WVH_eq (areWithin_ok v.se 0 80 h.s), h5, WVH_eq (areWithin_ok v.st 0 80 h.t), h6, h7, WB84, WVH_eq hC, not_any_not]
def errE (v : Ev) : Int := if evOK v = true then 0 else 100
theorem Check_ok (v : Ev) (h : SE v) : RV ft 31 [encE v] (I64 (errE v)) := by
  refine RV_of ft31 rfl ?_
  simp only [c31, r31]
  unfold errE
  cases h1 : evOK v <;> simp only [go_sem, Nat.reduceEqDiff, Nat.reduceAdd, Nat.reduceLT, Nat.reduceLeDiff, reduceIte, WB65, WVH_eq (validEvening_ok v h), true_and, h1, Bool.false_eq_true]
end Go.Ab.T
end

section
namespace Go.Ab.T
set_option maxRecDepth 8000
set_option maxHeartbeats 4000000
theorem bne_of {a b : Int} {x : Bool} (h : (a == b) = x) : (a != b) = !x := by rw [bne, h]
theorem CheckR_ok (v : Ev) (h : SE v) : RV ft 29 [encE v] (I64 (errE v)) := by
  refine RV_of ft29 rfl ?_
  simp only [c29, r29]
  unfold errE evOK
  have n1 := @bne_of v.se.length v.pr.length
  have n2 := @bne_of v.st.length v.pr.length
  cases h1 : inR v.pr.length 1 3
  · simp only [go_sem, Nat.reduceEqDiff, Nat.reduceAdd, Nat.reduceLT, Nat.reduceLeDiff, reduceIte, WB64, WVH_eq (within_ok _ _ _), true_and, h1, Bool.false_and, Bool.false_eq_true]
  cases h2 : ((v.se.length : Int) == v.pr.length)
  · simp only [go_sem, Nat.reduceEqDiff, Nat.reduceAdd, Nat.reduceLT, Nat.reduceLeDiff, reduceIte, WB64, WVH_eq (within_ok _ _ _), true_and, h1, n1 h2, Bool.false_and, Bool.true_and, Bool.not_false, Bool.not_true, Bool.false_eq_true]
  cases h3 : ((v.st.length : Int) == v.pr.length)
  · simp only [go_sem, Nat.reduceEqDiff, Nat.reduceAdd, Nat.reduceLT, Nat.reduceLeDiff, reduceIte, WB64, WVH_eq (within_ok _ _ _), true_and, h1, n1 h2, n2 h3, Bool.false_and, Bool.true_and, Bool.not_false, Bool.not_true, Bool.false_eq_true]
  cases h4 : allR v.pr 1 50
  · simp only [go_sem, Nat.reduceEqDiff, Nat.reduceAdd, Nat.reduceLT, Nat.reduceLeDiff, reduceIte, WB64, WVH_eq (within_ok _ _ _), true_and, h1, n1 h2, n2 h3, Bool.false_and, Bool.true_and, Bool.not_false, Bool.not_true, Bool.false_eq_true, WB54, WVH_eq (areAll_ok v.pr 1 50 h.p), h4]
  cases h5 : allR v.se 0 80
  · simp only [go_sem, Nat.reduceEqDiff, Nat.reduceAdd, Nat.reduceLT, Nat.reduceLeDiff, reduceIte, WB64, WVH_eq (within_ok _ _ _), true_and, h1, n1 h2, n2 h3, Bool.false_and, Bool.true_and, Bool.not_false, Bool.not_true, Bool.false_eq_true, WB54, WVH_eq (areAll_ok v.pr 1 50 h.p), h4, WVH_eq (areAll_ok v.se 0 80 h.s), h5]
  cases h6 : allR v.st 0 80
  · simp only [go_sem, Nat.reduceEqDiff, Nat.reduceAdd, Nat.reduceLT, Nat.reduceLeDiff, reduceIte, WB64, WVH_eq (within_ok _ _ _), true_and, h1, n1 h2, n2 h3, Bool.false_and, Bool.true_and, Bool.not_false, Bool.not_true, Bool.false_eq_true, WB54, WVH_eq (areAll_ok v.pr 1 50 h.p), h4, WVH_eq (areAll_ok v.se 0 80 h.s), h5, WVH_eq (areAll_ok v.st 0 80 h.t), h6]
  cases h7 : inR v.cs.length 1 4
  · simp only [go_sem, Nat.reduceEqDiff, Nat.reduceAdd, Nat.reduceLT, Nat.reduceLeDiff, reduceIte, WB64, WVH_eq (within_ok _ _ _), true_and, h1, n1 h2, n2 h3, Bool.false_and, Bool.true_and, Bool.not_false, Bool.not_true, Bool.false_eq_true, WB54, WVH_eq (areAll_ok v.pr 1 50 h.p), h4, WVH_eq (areAll_ok v.se 0 80 h.s), h5, WVH_eq (areAll_ok v.st 0 80 h.t), h6, h7]
  simp only [go_sem, Nat.reduceEqDiff, Nat.reduceAdd, Nat.reduceLT, Nat.reduceLeDiff, reduceIte, WB64, WVH_eq (within_ok _ _ _), true_and, h1, n1 h2, n2 h3, Bool.false_and, Bool.true_and, Bool.not_false, Bool.not_true, Bool.false_eq_true, WB54, WVH_eq (areAll_ok v.pr 1 50 h.p), h4, WVH_eq (areAll_ok v.se 0 80 h.s), h5, WVH_eq (areAll_ok v.st 0 80 h.t), h6, h7]
  clear h1 h2 h3 h4 h5 h6 h7 n1 n2
  refine WL_inv (α := Nat × List Ctr) (fun q e mm => e 1 = .ptr 0 0 0 ∧ e 4 = I64 q.1 ∧ v.cs.drop q.1 = q.2 ∧ q.2.all (ctrOK v.pr.length) = v.cs.all (ctrOK v.pr.length) ∧ ∃ bl, mm = ⟨.live [encE v] 4 :: bl, []⟩) (fun q => q.2.length) (0, v.cs) ?_ ?_
  · simp only [go_sem, Nat.reduceEqDiff, Nat.reduceAdd, Nat.reduceLT, Nat.reduceLeDiff, reduceIte]
    exact ⟨trivial, rfl, trivial, trivial, _, rfl⟩
  rintro ⟨k, r⟩ e m ⟨g1, g4, hd, ha, bl, rfl⟩
  dsimp only at g4 hd ha
  have hn := h.n
  cases r with
  | nil =>
    have h3 := drop_nil hd
    simp only [go_sem, Nat.reduceEqDiff, Nat.reduceAdd, Nat.reduceLT, Nat.reduceLeDiff, reduceIte, g1, g4, dec_ge h3]
    rw [← ha]; rfl
  | cons x r =>
    obtain ⟨hk, hd2, hlt⟩ := drop_cons hd
    rw [List.all_cons] at ha
    have hl := h.c x (List.mem_of_getElem? hk)
    have n1 := @bne_of x.so.length v.pr.length
    have hE : AV.sl [I64 x.fi, I64 x.la, I64 x.fl, I64 x.ca] .unk = encIs [x.fi, x.la, x.fl, x.ca] := rfl
    have bad : ctrOK v.pr.length x = false → v.cs.all (ctrOK v.pr.length) = false := fun h => by rw [← ha, h]; rfl
    have hunf : ctrOK v.pr.length x = (((x.so.length : Int) == v.pr.length) && (allR x.so 0 20 && (allR [x.fi, x.la, x.fl, x.ca] 0 9999 && (inR x.vo 0 20 && inR (roll x) 0 20)))) := rfl
    cases h1 : ((x.so.length : Int) == v.pr.length)
    · simp only [go_sem, Nat.reduceEqDiff, Nat.reduceAdd, Nat.reduceLT, Nat.reduceLeDiff, reduceIte, g1, g4, dec_lt hlt, Cs_idx hk, n1 h1, Bool.not_false, Bool.not_true]
      rw [bad (by rw [hunf, h1]; rfl)]; rfl
    cases h2 : allR x.so 0 20
    · simp only [go_sem, Nat.reduceEqDiff, Nat.reduceAdd, Nat.reduceLT, Nat.reduceLeDiff, reduceIte, g1, g4, dec_lt hlt, Cs_idx hk, n1 h1, Bool.not_false, Bool.not_true, WB54, WVH_eq (areAll_ok x.so 0 20 hl), true_and, h2]
      rw [bad (by rw [hunf, h1, h2]; rfl)]; rfl
    cases h3 : allR [x.fi, x.la, x.fl, x.ca] 0 9999
    · simp only [go_sem, Nat.reduceEqDiff, Nat.reduceAdd, Nat.reduceLT, Nat.reduceLeDiff, reduceIte, g1, g4, dec_lt hlt, Cs_idx hk, n1 h1, Bool.not_false, Bool.not_true, WB54, WVH_eq (areAll_ok x.so 0 20 hl), true_and, h2, hE, WVH_eq (areAll_ok [x.fi, x.la, x.fl, x.ca] 0 9999 (by simp)), h3]
      rw [bad (by rw [hunf, h1, h2, h3]; rfl)]; rfl
    cases h4 : inR x.vo 0 20
    · simp only [go_sem, Nat.reduceEqDiff, Nat.reduceAdd, Nat.reduceLT, Nat.reduceLeDiff, reduceIte, g1, g4, dec_lt hlt, Cs_idx hk, n1 h1, Bool.not_false, Bool.not_true, WB54, WVH_eq (areAll_ok x.so 0 20 hl), true_and, h2, hE, WVH_eq (areAll_ok [x.fi, x.la, x.fl, x.ca] 0 9999 (by simp)), h3, WB64, WVH_eq (within_ok _ _ _), h4]
      rw [bad (by rw [hunf, h1, h2, h3, h4]; rfl)]; rfl
    have hCO : CO' x := by
      have h3' := allR_iff.1 h3
      exact ⟨h3' _ (by simp), h3' _ (by simp), inR_iff.1 h4⟩
    cases h5 : inR (roll x) 0 20
    · simp only [go_sem, Nat.reduceEqDiff, Nat.reduceAdd, Nat.reduceLT, Nat.reduceLeDiff, reduceIte, g1, g4, dec_lt hlt, Cs_idx hk, n1 h1, Bool.not_false, Bool.not_true, WB54, WVH_eq (areAll_ok x.so 0 20 hl), true_and, h2, hE, WVH_eq (areAll_ok [x.fi, x.la, x.fl, x.ca] 0 9999 (by simp)), h3, WB64, WVH_eq (within_ok _ _ _), h4, WB26, WVH_eq (Roll_ok hCO), h5]
      rw [bad (by rw [hunf, h1, h2, h3, h4, h5]; rfl)]; rfl
    simp only [go_sem, Nat.reduceEqDiff, Nat.reduceAdd, Nat.reduceLT, Nat.reduceLeDiff, reduceIte, g1, g4, dec_lt hlt, Cs_idx hk, n1 h1, Bool.not_false, Bool.not_true, WB54, WVH_eq (areAll_ok x.so 0 20 hl), true_and, h2, hE, WVH_eq (areAll_ok [x.fi, x.la, x.fl, x.ca] 0 9999 (by simp)), h3, WB64, WVH_eq (within_ok _ _ _), h4, WB26, WVH_eq (Roll_ok hCO), h5, wrap_n1 k (by omega)]
    refine Nx_of (k + 1, r) (by simp) ?_
    simp only [go_sem, Nat.reduceEqDiff, Nat.reduceAdd, Nat.reduceLT, Nat.reduceLeDiff, reduceIte, g1]
    refine ⟨trivial, trivial, hd2, ?_, _, rfl⟩
    rw [← ha, hunf, h1, h2, h3, h4, h5]; rfl
theorem Far_ok (v : Ev) : RV ft 30 [encE v] (.bool (farB v)) := by
  refine RV_of ft30 rfl ?_
  simp only [c30, r30]
  unfold farB
  have hb : bigB v = (decide ((30 : Int) < v.pr.length) || (decide ((30 : Int) < v.se.length) || (decide ((30 : Int) < v.st.length) || decide ((30 : Int) < v.cs.length)))) := rfl
  cases h1 : decide ((30 : Int) < v.pr.length)
  rotate_left
  · rw [hb, h1]
    simp only [go_sem, Nat.reduceEqDiff, Nat.reduceAdd, Nat.reduceLT, Nat.reduceLeDiff, reduceIte, gt_iff_lt, h1, Bool.true_or]
  cases h2 : decide ((30 : Int) < v.se.length)
  rotate_left
  · rw [hb, h1, h2]
    simp only [go_sem, Nat.reduceEqDiff, Nat.reduceAdd, Nat.reduceLT, Nat.reduceLeDiff, reduceIte, gt_iff_lt, h1, h2, Bool.true_or, Bool.false_or]
  cases h3 : decide ((30 : Int) < v.st.length)
  rotate_left
  · rw [hb, h1, h2, h3]
    simp only [go_sem, Nat.reduceEqDiff, Nat.reduceAdd, Nat.reduceLT, Nat.reduceLeDiff, reduceIte, gt_iff_lt, h1, h2, h3, Bool.true_or, Bool.false_or]
  cases h4 : decide ((30 : Int) < v.cs.length)
  rotate_left
  · rw [hb, h1, h2, h3, h4]
    simp only [go_sem, Nat.reduceEqDiff, Nat.reduceAdd, Nat.reduceLT, Nat.reduceLeDiff, reduceIte, gt_iff_lt, h1, h2, h3, h4, Bool.true_or, Bool.false_or]
  rw [hb, h1, h2, h3, h4]
  simp only [go_sem, Nat.reduceEqDiff, Nat.reduceAdd, Nat.reduceLT, Nat.reduceLeDiff, reduceIte, gt_iff_lt, h1, h2, h3, h4, Bool.or_self, Bool.false_or]
  have hsz : (v.pr.length ≤ 30 ∧ v.se.length ≤ 30) ∧ v.st.length ≤ 30 ∧ v.cs.length ≤ 30 := by
    simp only [decide_eq_false_iff_not] at h1 h2 h3 h4
    omega
  clear h1 h2 h3 h4 hb
  refine WL_inv (α := Nat × List Ctr) (fun q e mm => e 1 = .ptr 0 0 0 ∧ e 3 = I64 q.1 ∧ v.cs.drop q.1 = q.2 ∧ q.2.any bigC = v.cs.any bigC ∧ ∃ bl, mm = ⟨.live [encE v] 4 :: bl, []⟩) (fun q => q.2.length) (0, v.cs) ?_ ?_
  · simp only [go_sem, Nat.reduceEqDiff, Nat.reduceAdd, Nat.reduceLT, Nat.reduceLeDiff, reduceIte]
    exact ⟨trivial, rfl, trivial, trivial, _, rfl⟩
  rintro ⟨k, r⟩ e m ⟨g1, g3, hd, ha, bl, rfl⟩
  dsimp only at g3 hd ha
  cases r with
  | cons x r =>
    obtain ⟨hk, hd2, hlt⟩ := drop_cons hd
    rw [List.any_cons] at ha
    cases hx : bigC x
    · have hx' : decide ((30 : Int) < x.so.length) = false := hx
      simp only [go_sem, Nat.reduceEqDiff, Nat.reduceAdd, Nat.reduceLT, Nat.reduceLeDiff, reduceIte, g1, g3, dec_lt hlt, Cs_idx hk, gt_iff_lt, hx', wrap_n1 k (by omega)]
      refine Nx_of (k + 1, r) (by simp) ?_
      simp only [go_sem, Nat.reduceEqDiff, Nat.reduceAdd, Nat.reduceLT, Nat.reduceLeDiff, reduceIte, g1]
      exact ⟨trivial, trivial, hd2, by rw [← ha, hx, Bool.false_or], _, rfl⟩
    · have hx' : decide ((30 : Int) < x.so.length) = true := hx
      simp only [go_sem, Nat.reduceEqDiff, Nat.reduceAdd, Nat.reduceLT, Nat.reduceLeDiff, reduceIte, g1, g3, dec_lt hlt, Cs_idx hk, gt_iff_lt, hx']
      rw [← ha, hx]; rfl
  | nil =>
    have h3 := drop_nil hd
    have ha' : v.cs.any bigC = false := by rw [← ha]; rfl
    rw [ha', Bool.false_or]
    clear ha
    have h : SE v := ⟨by omega, by omega, by omega, by omega, fun c hc => by
      have := List.any_eq_false.1 ha' c hc
      unfold bigC at this
      simp only [decide_eq_true_eq] at this
      omega⟩
    cases ho : evOK v
    · have hne : ((errE v) != 0) = true := by unfold errE; rw [ho]; rfl
      simp only [go_sem, Nat.reduceEqDiff, Nat.reduceAdd, Nat.reduceLT, Nat.reduceLeDiff, reduceIte, g1, g3, dec_ge h3, WB29, WVH_eq (CheckR_ok v h), true_and, hne, Bool.false_and]
    have hne : ((errE v) != 0) = false := by unfold errE; rw [ho]; rfl
    simp only [go_sem, Nat.reduceEqDiff, Nat.reduceAdd, Nat.reduceLT, Nat.reduceLeDiff, reduceIte, g1, g3, dec_ge h3, WB29, WVH_eq (CheckR_ok v h), true_and, hne, Bool.true_and]
    have hco := (EV4_of.1 ho).cs
    refine WL_inv (α := Nat × List Ctr) (fun q e mm => e 1 = .ptr 0 0 0 ∧ e 4 = I64 q.1 ∧ v.cs.drop q.1 = q.2 ∧ q.2.any (fun c => decide (7 < roll c)) = v.cs.any (fun c => decide (7 < roll c)) ∧ ∃ bl, mm = ⟨.live [encE v] 4 :: bl, []⟩) (fun q => q.2.length) (0, v.cs) ?_ ?_
    · simp only [go_sem, Nat.reduceEqDiff, Nat.reduceAdd, Nat.reduceLT, Nat.reduceLeDiff, reduceIte, g1]
      exact ⟨trivial, rfl, trivial, trivial, _, rfl⟩
    clear g1 g3 hd h3
    rintro ⟨k, r⟩ e m ⟨g1, g4, hd, ha, bl, rfl⟩
    dsimp only at g4 hd ha
    cases r with
    | nil =>
      have h3 := drop_nil hd
      simp only [go_sem, Nat.reduceEqDiff, Nat.reduceAdd, Nat.reduceLT, Nat.reduceLeDiff, reduceIte, g1, g4, dec_ge h3, gt_iff_lt]
      rw [← ha]; rfl
    | cons x r =>
      obtain ⟨hk, hd2, hlt⟩ := drop_cons hd
      rw [List.any_cons] at ha
      have hR := Roll_ok (hco x (List.mem_of_getElem? hk)).s
      cases hx : decide (7 < roll x)
      · simp only [go_sem, Nat.reduceEqDiff, Nat.reduceAdd, Nat.reduceLT, Nat.reduceLeDiff, reduceIte, g1, g4, dec_lt hlt, Cs_idx hk, WB26, WVH_eq hR, true_and, gt_iff_lt, hx, wrap_n1 k (by omega)]
        refine Nx_of (k + 1, r) (by simp) ?_
        simp only [go_sem, Nat.reduceEqDiff, Nat.reduceAdd, Nat.reduceLT, Nat.reduceLeDiff, reduceIte, g1]
        exact ⟨trivial, trivial, hd2, by rw [← ha, hx, Bool.false_or], _, rfl⟩
      · simp only [go_sem, Nat.reduceEqDiff, Nat.reduceAdd, Nat.reduceLT, Nat.reduceLeDiff, reduceIte, g1, g4, dec_lt hlt, Cs_idx hk, WB26, WVH_eq hR, true_and, gt_iff_lt, hx]
        rw [← ha, hx]; rfl
theorem SE.of_far {v : Ev} (h : farB v = false) : SE v := by
  unfold farB bigB at h
  simp only [Bool.or_eq_false_iff, decide_eq_false_iff_not, List.any_eq_false] at h
  obtain ⟨⟨h1, h2, h3, h4⟩, h5, _⟩ := h
  exact ⟨by omega, by omega, by omega, by omega, fun c hc => by have := h5 c hc; unfold bigC at this; simp only [decide_eq_true_eq] at this; omega⟩
theorem valid_ok (v : Ev) : RV ft 12 [encE v] (.bool (!farB v && evOK v)) := by
  refine RV_of ft12 rfl ?_
  simp only [c12, r12]
  cases h1 : farB v
  · have h := SE.of_far h1
    cases ho : evOK v
    · have hne : ((errE v) == 0) = false := by unfold errE; rw [ho]; rfl
      simp only [go_sem, Nat.reduceEqDiff, Nat.reduceAdd, Nat.reduceLT, Nat.reduceLeDiff, reduceIte, WB30, WVH_eq (Far_ok v), true_and, h1, WB29, WVH_eq (CheckR_ok v h), hne, Bool.not_false, Bool.and_false]
    · have hne : ((errE v) == 0) = true := by unfold errE; rw [ho]; rfl
      simp only [go_sem, Nat.reduceEqDiff, Nat.reduceAdd, Nat.reduceLT, Nat.reduceLeDiff, reduceIte, WB30, WVH_eq (Far_ok v), true_and, h1, WB29, WVH_eq (CheckR_ok v h), hne, Bool.not_false, Bool.and_true]
  · simp only [go_sem, Nat.reduceEqDiff, Nat.reduceAdd, Nat.reduceLT, Nat.reduceLeDiff, reduceIte, WB30, WVH_eq (Far_ok v), true_and, h1, Bool.not_true, Bool.false_and]
end Go.Ab.T
end
