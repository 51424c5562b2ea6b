/-
  A part of the proofs over this seat.
  (The texts KlM1 KlK1 KlK2 KlK3, one behind the other.)
-/
import Derived.Test.YtcebfhalhcnnnaaA0
import Derived.Test.YtcebfhalhcnnnaaT1
set_option linter.unusedSimpArgs false
set_option linter.unusedVariables false
set_option linter.unusedSectionVars false
section
namespace Go.Ab.T
structure Sp where
  lo : Int
  hi : Int
structure Gg where
  hr : Int
  lo : Int
  hi : Int
structure Lm where
  fu : Sp
  fd : Sp
  no : Sp
  ra : Int
  gs : List Gg
  wr : Int
structure Ln where
  fu : Int
  fd : Int
def inR (n lo hi : Int) : Bool := decide (lo ≤ n) && decide (n ≤ hi)
theorem inR_iff {n lo hi : Int} : inR n lo hi = true ↔ lo ≤ n ∧ n ≤ hi := by unfold inR; simp
def inS (s : Sp) (n : Int) : Bool := inR n s.lo s.hi
/-- The light at an hour. -/
def lit (x : Ln) (h : Int) : Int := x.fu - h * x.fd
def okG (x : Ln) (g : Gg) : Bool := inR (lit x g.hr) g.lo g.hi
def wrN (gs : List Gg) (x : Ln) : Nat := (gs.filter fun g => !okG x g).length
/-- So many numbers from one on. -/
def upF : Nat → Int → List Int
  | 0, _ => []
  | n + 1, a => a :: upF n (a + 1)
def rgI (lo hi : Int) : List Int := upF (hi + 1 - lo).toNat lo
theorem mem_upF : ∀ (n : Nat) (a x : Int), x ∈ upF n a ↔ a ≤ x ∧ x < a + n
  | 0, a, x => by
    simp only [upF, List.not_mem_nil, false_iff]; omega
  | n + 1, a, x => by
    simp only [upF, List.mem_cons, mem_upF n (a + 1) x]; omega
theorem mem_rgI {lo hi x : Int} : x ∈ rgI lo hi ↔ lo ≤ x ∧ x ≤ hi := by
  unfold rgI; rw [mem_upF]; omega
theorem rgI_nil {lo hi : Int} (h : hi < lo) : rgI lo hi = [] := by
  unfold rgI; rw [show (hi + 1 - lo).toNat = 0 by omega]; rfl
theorem rgI_cons {lo hi : Int} (h : lo ≤ hi) : rgI lo hi = lo :: rgI (lo + 1) hi := by
  unfold rgI; rw [show (hi + 1 - lo).toNat = (hi + 1 - (lo + 1)).toNat + 1 by omega]; rfl
theorem upF_len : ∀ (n : Nat) (a : Int), (upF n a).length = n
  | 0, _ => rfl
  | n + 1, a => by simp [upF, upF_len n]
def linF (fd : Sp) (a : Int) : List Ln := (rgI fd.lo fd.hi).map fun b => ⟨a, b⟩
/-- All lines of a lamp. -/
def linM (l : Lm) : List Ln := (rgI l.fu.lo l.fu.hi).flatMap (linF l.fd)
def isT (l : Lm) (x : Ln) : Bool := decide ((wrN l.gs x : Int) ≤ l.wr)
def truM (l : Lm) : List Ln := (linM l).filter (isT l)
theorem mem_linM {l : Lm} {x : Ln} : x ∈ linM l ↔ inS l.fu x.fu = true ∧ inS l.fd x.fd = true := by
  unfold linM inS
  rw [inR_iff, inR_iff, List.mem_flatMap]
  constructor
  · rintro ⟨a, h1, h2⟩
    obtain ⟨b, h3, rfl⟩ := List.mem_map.1 h2
    exact ⟨mem_rgI.1 h1, mem_rgI.1 h3⟩
  · rintro ⟨h1, h2⟩
    exact ⟨x.fu, mem_rgI.2 h1, List.mem_map.2 ⟨x.fd, mem_rgI.2 h2, rfl⟩⟩
theorem mem_truM {l : Lm} {x : Ln} : x ∈ truM l ↔ (inS l.fu x.fu = true ∧ inS l.fd x.fd = true) ∧ isT l x = true := by
  unfold truM; rw [List.mem_filter, mem_linM]
theorem wrN_le (gs : List Gg) (x : Ln) : wrN gs x ≤ gs.length := List.length_filter_le _ _
/-! ### What is valid -/
def spOK (s : Sp) (most : Int) : Bool := inR s.lo 0 s.hi && decide (s.hi ≤ most)
def spR (s : Sp) (lo hi : Int) : Bool := decide (lo ≤ s.lo) && (decide (s.lo ≤ s.hi) && decide (s.hi ≤ hi))
theorem spR_iff {s : Sp} {lo hi : Int} : spR s lo hi = true ↔ lo ≤ s.lo ∧ s.lo ≤ s.hi ∧ s.hi ≤ hi := by unfold spR; simp
theorem spOK_eq (s : Sp) (m : Int) : spOK s m = spR s 0 m := by
  unfold spOK spR inR; rw [Bool.and_assoc]
def hrR (n : Int) : Bool := inR n 0 40
def gOK (g : Gg) : Bool := hrR g.hr && spR ⟨g.lo, g.hi⟩ (-400) 400
def okL (l : Lm) : Bool := spR l.fu 0 400 && (spR l.no 0 400 && (spR l.fd 0 9 && (hrR l.ra && (decide ((l.gs.length : Int) ≤ 10) && (l.gs.all gOK && inR l.wr 0 3)))))
/-- A valid lamp. -/
structure LV (l : Lm) : Prop where
  u0 : 0 ≤ l.fu.lo
  u1 : l.fu.lo ≤ l.fu.hi
  u2 : l.fu.hi ≤ 400
  n0 : 0 ≤ l.no.lo
  n1 : l.no.lo ≤ l.no.hi
  n2 : l.no.hi ≤ 400
  d0 : 0 ≤ l.fd.lo
  d1 : l.fd.lo ≤ l.fd.hi
  d2 : l.fd.hi ≤ 9
  r0 : 0 ≤ l.ra
  r1 : l.ra ≤ 40
  gl : l.gs.length ≤ 10
  gg : ∀ g ∈ l.gs, 0 ≤ g.hr ∧ g.hr ≤ 40 ∧ -400 ≤ g.lo ∧ g.lo ≤ g.hi ∧ g.hi ≤ 400
  w0 : 0 ≤ l.wr
  w1 : l.wr ≤ 3
theorem gOK_iff {g : Gg} : gOK g = true ↔ 0 ≤ g.hr ∧ g.hr ≤ 40 ∧ -400 ≤ g.lo ∧ g.lo ≤ g.hi ∧ g.hi ≤ 400 := by
  unfold gOK hrR; rw [Bool.and_eq_true, inR_iff, spR_iff]; exact ⟨fun ⟨⟨a, b⟩, c⟩ => ⟨a, b, c⟩, fun ⟨a, b, c⟩ => ⟨⟨a, b⟩, c⟩⟩
theorem okL_iff {l : Lm} : okL l = true ↔ LV l := by
  unfold okL hrR
  simp only [Bool.and_eq_true, spR_iff, inR_iff, decide_eq_true_eq, List.all_eq_true, gOK_iff]
  constructor
  · rintro ⟨⟨a, b, c⟩, ⟨d, e, f⟩, ⟨g, h, i⟩, ⟨j, k⟩, m, n, o, p⟩
    exact ⟨a, b, c, d, e, f, g, h, i, j, k, by omega, n, o, p⟩
  · intro h
    exact ⟨⟨h.u0, h.u1, h.u2⟩, ⟨h.n0, h.n1, h.n2⟩, ⟨h.d0, h.d1, h.d2⟩, ⟨h.r0, h.r1⟩, by have := h.gl; omega, h.gg, h.w0, h.w1⟩
/-- A line within a lamp's bounds. -/
structure NV (x : Ln) : Prop where
  a0 : 0 ≤ x.fu
  a1 : x.fu ≤ 400
  b0 : 0 ≤ x.fd
  b1 : x.fd ≤ 9
theorem linM_NV {l : Lm} (h : LV l) {x : Ln} (hx : x ∈ linM l) : NV x := by
  obtain ⟨h1, h2⟩ := mem_linM.1 hx
  have h3 := inR_iff.1 h1
  have h4 := inR_iff.1 h2
  have := h.u0; have := h.u2; have := h.d0; have := h.d2
  exact ⟨by omega, by omega, by omega, by omega⟩
theorem truM_lin {l : Lm} {x : Ln} (hx : x ∈ truM l) : x ∈ linM l := (List.mem_filter.1 hx).1
theorem mul_bd {h b : Int} (h0 : 0 ≤ h) (h1 : h ≤ 80) (b0 : 0 ≤ b) (b1 : b ≤ 9) : 0 ≤ h * b ∧ h * b ≤ 720 :=
  ⟨Int.mul_nonneg h0 b0, Int.le_trans (Int.mul_le_mul h1 b1 b0 (by omega)) (by omega)⟩
theorem lit_bd {x : Ln} (hx : NV x) {h : Int} (h0 : 0 ≤ h) (h1 : h ≤ 80) : (0 ≤ h * x.fd ∧ h * x.fd ≤ 720) ∧ -720 ≤ lit x h ∧ lit x h ≤ 400 := by
  have h2 := mul_bd h0 h1 hx.b0 hx.b1
  have := hx.a0; have := hx.a1
  unfold lit
  exact ⟨h2, by omega, by omega⟩
end Go.Ab.T
end

section
namespace Go.Ab.T
set_option maxRecDepth 8000
set_option maxHeartbeats 4000000
theorem wrap_n1 (k : Nat) (h : k < 4611686018427387904) : IntKind.i64.wrap ((k : Int) + 1) = ((k + 1 : Nat) : Int) := by rw [wrap_i64 _ (by omega) (by omega)]; omega
theorem wrap_i1 (k : Int) (h0 : -4611686018427387904 < k) (h : k < 4611686018427387904) : IntKind.i64.wrap (k + 1) = k + 1 := wrap_i64 _ (by omega) (by omega)
def encS (s : Sp) : AV := .agg [I64 s.lo, I64 s.hi]
theorem SCells (s : Sp) : (encS s).cells = [I64 s.lo, I64 s.hi] := rfl
theorem SEta (s : Sp) : AV.agg [I64 s.lo, I64 s.hi] = encS s := rfl
theorem snS (m : Mem) (q : Nat) (s : Sp) : snap m (q + 2) (encS s) = encS s := rfl
theorem hotS (q : Nat) (s : Sp) : hot (q + 2) (encS s) = false := rfl
def encG (g : Gg) : AV := .agg [I64 g.hr, I64 g.lo, I64 g.hi]
theorem GCells (g : Gg) : (encG g).cells = [I64 g.hr, I64 g.lo, I64 g.hi] := rfl
theorem GEta (g : Gg) : AV.agg [I64 g.hr, I64 g.lo, I64 g.hi] = encG g := rfl
theorem snG (m : Mem) (q : Nat) (g : Gg) : snap m (q + 2) (encG g) = encG g := rfl
theorem hotG (q : Nat) (g : Gg) : hot (q + 2) (encG g) = false := rfl
def encN (x : Ln) : AV := .agg [I64 x.fu, I64 x.fd]
theorem NCells (x : Ln) : (encN x).cells = [I64 x.fu, I64 x.fd] := rfl
theorem NEta (x : Ln) : AV.agg [I64 x.fu, I64 x.fd] = encN x := rfl
theorem NEta' (a b : Int) : AV.agg [I64 a, I64 b] = encN ⟨a, b⟩ := rfl
theorem snN (m : Mem) (q : Nat) (x : Ln) : snap m (q + 2) (encN x) = encN x := rfl
theorem hotN (q : Nat) (x : Ln) : hot (q + 2) (encN x) = false := rfl
def encIs (l : List Int) : AV := .sl (l.map I64) .unk
theorem IsCells (l : List Int) : (encIs l).cells = [encIs l] := rfl
theorem IsSolid (l : List Int) : (encIs l).solid = true := rfl
theorem IsAgg (l : List Int) : (encIs l).isAgg = false := rfl
theorem IsNil : AV.sl [] .unk = encIs [] := rfl
theorem Is_len (m : Mem) (l : List Int) : lenAt m (encIs l) = some (I64 l.length) := by unfold encIs; rw [lenAt_sl, List.length_map]
theorem Is_get (l : List Int) (k : Nat) : (l.map I64)[k]? = l[k]?.map I64 := List.getElem?_map
theorem Is_idx {l : List Int} {k : Nat} {x : Int} (h : l[k]? = some x) (m : Mem) : idxAt m (encIs l) (I64 (k : Int)) 1 = some (.pv (I64 x) 0) := by
  unfold encIs
  rw [idxAt_sl, if_pos (by omega), Int.toNat_natCast, Is_get, h]
  rfl
theorem Is_idxI {l : List Int} {n : Int} {x : Int} (h0 : 0 ≤ n) (h : l[n.toNat]? = some x) (m : Mem) : idxAt m (encIs l) (I64 n) 1 = some (.pv (I64 x) 0) := by
  have := Is_idx h m
  rwa [Int.toNat_of_nonneg h0] at this
theorem snIs (m : Mem) (q : Nat) (l : List Int) : snap m (q + 2) (encIs l) = encIs l := by
  show AV.sl ((l.map I64).map (snap m (q + 1))) .unk = _
  rw [List.map_map, show snap m (q + 1) ∘ I64 = I64 from funext (fun _ => rfl)]; rfl
theorem hotIs (q : Nat) (l : List Int) : hot (q + 2) (encIs l) = false := by
  show (l.map I64).any (hot (q + 1)) = false
  rw [List.any_map, List.any_eq_false]; intro x _; simp only [Function.comp]; rw [show hot (q + 1) (I64 x) = false from rfl]; decide
def encGs (l : List Gg) : AV := .sl (l.map encG) .unk
theorem GsCells (l : List Gg) : (encGs l).cells = [encGs l] := rfl
theorem GsSolid (l : List Gg) : (encGs l).solid = true := rfl
theorem GsAgg (l : List Gg) : (encGs l).isAgg = false := rfl
theorem GsNil : AV.sl [] .unk = encGs [] := rfl
theorem Gs_len (m : Mem) (l : List Gg) : lenAt m (encGs l) = some (I64 l.length) := by unfold encGs; rw [lenAt_sl, List.length_map]
theorem Gs_get (l : List Gg) (k : Nat) : (l.map encG)[k]? = l[k]?.map encG := List.getElem?_map
theorem Gs_idx {l : List Gg} {k : Nat} {x : Gg} (h : l[k]? = some x) (m : Mem) : idxAt m (encGs l) (I64 (k : Int)) 3 = some (.pv (encG x) 0) := by
  unfold encGs
  rw [idxAt_sl, if_pos (by omega), Int.toNat_natCast, Gs_get, h]
  rfl
theorem Gs_idxI {l : List Gg} {n : Int} {x : Gg} (h0 : 0 ≤ n) (h : l[n.toNat]? = some x) (m : Mem) : idxAt m (encGs l) (I64 n) 3 = some (.pv (encG x) 0) := by
  have := Gs_idx h m
  rwa [Int.toNat_of_nonneg h0] at this
theorem snGs (m : Mem) (q : Nat) (l : List Gg) : snap m (q + 3) (encGs l) = encGs l := by
  show AV.sl ((l.map encG).map (snap m (q + 2))) .unk = _
  rw [List.map_map, show snap m (q + 2) ∘ encG = encG from funext (fun t => snG m q t)]; rfl
theorem hotGs (q : Nat) (l : List Gg) : hot (q + 3) (encGs l) = false := by
  show (l.map encG).any (hot (q + 2)) = false
  rw [List.any_map, List.any_eq_false]; intro x _; simp only [Function.comp]; rw [show hot (q + 2) (encG x) = false from hotG q x]; decide
def encNs (l : List Ln) : AV := .sl (l.map encN) .unk
theorem NsCells (l : List Ln) : (encNs l).cells = [encNs l] := rfl
theorem NsSolid (l : List Ln) : (encNs l).solid = true := rfl
theorem NsAgg (l : List Ln) : (encNs l).isAgg = false := rfl
theorem NsNil : AV.sl [] .unk = encNs [] := rfl
theorem Ns_len (m : Mem) (l : List Ln) : lenAt m (encNs l) = some (I64 l.length) := by unfold encNs; rw [lenAt_sl, List.length_map]
theorem Ns_get (l : List Ln) (k : Nat) : (l.map encN)[k]? = l[k]?.map encN := List.getElem?_map
theorem Ns_idx {l : List Ln} {k : Nat} {x : Ln} (h : l[k]? = some x) (m : Mem) : idxAt m (encNs l) (I64 (k : Int)) 2 = some (.pv (encN x) 0) := by
  unfold encNs
  rw [idxAt_sl, if_pos (by omega), Int.toNat_natCast, Ns_get, h]
  rfl
theorem Ns_idxI {l : List Ln} {n : Int} {x : Ln} (h0 : 0 ≤ n) (h : l[n.toNat]? = some x) (m : Mem) : idxAt m (encNs l) (I64 n) 2 = some (.pv (encN x) 0) := by
  have := Ns_idx h m
  rwa [Int.toNat_of_nonneg h0] at this
theorem snNs (m : Mem) (q : Nat) (l : List Ln) : snap m (q + 3) (encNs l) = encNs l := by
  show AV.sl ((l.map encN).map (snap m (q + 2))) .unk = _
  rw [List.map_map, show snap m (q + 2) ∘ encN = encN from funext (fun t => snN m q t)]; rfl
theorem hotNs (q : Nat) (l : List Ln) : hot (q + 3) (encNs l) = false := by
  show (l.map encN).any (hot (q + 2)) = false
  rw [List.any_map, List.any_eq_false]; intro x _; simp only [Function.comp]; rw [show hot (q + 2) (encN x) = false from hotN q x]; decide
def encL (l : Lm) : AV := .agg [I64 l.fu.lo, I64 l.fu.hi, I64 l.fd.lo, I64 l.fd.hi, I64 l.no.lo, I64 l.no.hi, I64 l.ra, encGs l.gs, I64 l.wr]
theorem LCells (l : Lm) : (encL l).cells = [I64 l.fu.lo, I64 l.fu.hi, I64 l.fd.lo, I64 l.fd.hi, I64 l.no.lo, I64 l.no.hi, I64 l.ra, encGs l.gs, I64 l.wr] := rfl
theorem LEta (l : Lm) : AV.agg [I64 l.fu.lo, I64 l.fu.hi, I64 l.fd.lo, I64 l.fd.hi, I64 l.no.lo, I64 l.no.hi, I64 l.ra, encGs l.gs, I64 l.wr] = encL l := rfl
theorem snL (m : Mem) (q : Nat) (l : Lm) : snap m (q + 4) (encL l) = encL l := by
  show AV.agg [I64 l.fu.lo, I64 l.fu.hi, I64 l.fd.lo, I64 l.fd.hi, I64 l.no.lo, I64 l.no.hi, I64 l.ra, snap m (q + 3) (encGs l.gs), I64 l.wr] = _
  rw [snGs]; rfl
theorem hotL (q : Nat) (l : Lm) : hot (q + 4) (encL l) = false := by
  show (false || (false || (false || (false || (false || (false || (false || (hot (q + 3) (encGs l.gs) || (false || false))))))))) = false
  rw [hotGs]; rfl
theorem Is_hd (l : List Int) : hdSz (l.map I64) 1 = true := hdSz_map' I64 1 l fun _ => rfl
theorem Gs_hd (l : List Gg) : hdSz (l.map encG) 3 = true := hdSz_map' encG 3 l fun _ => rfl
theorem Ns_hd (l : List Ln) : hdSz (l.map encN) 2 = true := hdSz_map' encN 2 l fun _ => rfl
theorem cellsI (l : List Int) : ∀ e ∈ l.map I64, e.cells.length = 1 := fun e he => by
  obtain ⟨x, _, rfl⟩ := List.mem_map.1 he; rfl
theorem cellsN (l : List Ln) : ∀ e ∈ l.map encN, e.cells.length = 2 := fun e he => by
  obtain ⟨x, _, rfl⟩ := List.mem_map.1 he; rfl
attribute [go_sem] SCells SEta GCells GEta NCells LCells LEta snS hotS snG hotG snN hotN snIs hotIs snGs hotGs snNs hotNs snL hotL IsCells IsSolid IsAgg GsCells GsSolid GsAgg NsCells NsSolid NsAgg Is_len Gs_len Ns_len
theorem within_ok (n lo hi : Int) : RV ft 55 [I64 n, I64 lo, I64 hi] (.bool (inR n lo hi)) := by
  refine RV_of ft55 rfl ?_
  simp only [c55, r55]
  unfold inR
  cases h : decide (lo ≤ n) <;> simp only [go_sem, Nat.reduceEqDiff, Nat.reduceAdd, Nat.reduceLT, Nat.reduceLeDiff, reduceIte, h, Bool.true_and, Bool.false_and]
theorem isWithin_ok (n lo hi : Int) : RV ft 76 [I64 n, I64 lo, I64 hi] (.bool (inR n lo hi)) := by
  refine RV_of ft76 rfl ?_
  simp only [c76, r76]
  unfold inR
  cases h : decide (lo ≤ n) <;> simp only [go_sem, Nat.reduceEqDiff, Nat.reduceAdd, Nat.reduceLT, Nat.reduceLeDiff, reduceIte, h, Bool.true_and, Bool.false_and]
theorem isHourR_ok (n : Int) : RV ft 33 [I64 n] (.bool (hrR n)) := by
  refine RV_of ft33 rfl ?_
  simp only [c33, r33]
  unfold hrR inR
  cases h : decide ((0 : Int) ≤ n) <;> simp only [go_sem, Nat.reduceEqDiff, Nat.reduceAdd, Nat.reduceLT, Nat.reduceLeDiff, reduceIte, h, Bool.true_and, Bool.false_and]
theorem isHour_ok (n : Int) : RV ft 63 [I64 n] (.bool (hrR n)) := by
  refine RV_of ft63 rfl ?_
  simp only [c63, r63]
  simp only [go_sem, Nat.reduceEqDiff, Nat.reduceAdd, Nat.reduceLT, Nat.reduceLeDiff, reduceIte, WB76, WVH_eq (isWithin_ok _ _ _), true_and]
  rfl
theorem isSpan_ok (s : Sp) (m : Int) : RV ft 54 [encS s, I64 m] (.bool (spR s 0 m)) := by
  rw [← spOK_eq]
  refine RV_of ft54 rfl ?_
  simp only [c54, r54]
  unfold spOK
  cases h : inR s.lo 0 s.hi <;> simp only [go_sem, Nat.reduceEqDiff, Nat.reduceAdd, Nat.reduceLT, Nat.reduceLeDiff, reduceIte, SCells, WB55, WVH_eq (within_ok _ _ _), true_and, h]
theorem isSpanWithin_ok (s : Sp) (lo hi : Int) : RV ft 73 [encS s, I64 lo, I64 hi] (.bool (spR s lo hi)) := by
  refine RV_of ft73 rfl ?_
  simp only [c73, r73]
  unfold spR
  cases h : decide (lo ≤ s.lo)
  · simp only [go_sem, Nat.reduceEqDiff, Nat.reduceAdd, Nat.reduceLT, Nat.reduceLeDiff, reduceIte, SCells, h]
  cases h2 : decide (s.lo ≤ s.hi) <;> simp only [go_sem, Nat.reduceEqDiff, Nat.reduceAdd, Nat.reduceLT, Nat.reduceLeDiff, reduceIte, SCells, h, h2]
theorem validGauge_ok (g : Gg) : RV ft 75 [encG g] (.bool (gOK g)) := by
  refine RV_of ft75 rfl ?_
  simp only [c75, r75]
  unfold gOK
  have hE : AV.agg [I64 g.lo, I64 g.hi] = encS ⟨g.lo, g.hi⟩ := rfl
  cases h : hrR g.hr <;> simp only [go_sem, Nat.reduceEqDiff, Nat.reduceAdd, Nat.reduceLT, Nat.reduceLeDiff, reduceIte, GCells, WB63, WVH_eq (isHour_ok _), true_and, h, hE, snS, hotS, WB73, WVH_eq (isSpanWithin_ok _ _ _)]
theorem at_ok {x : Ln} (hx : NV x) {h : Int} (h0 : 0 ≤ h) (h1 : h ≤ 80) : RV ft 79 [encN x, I64 h] (I64 (lit x h)) := by
  refine RV_of ft79 rfl ?_
  simp only [c79, r79]
  have hb := lit_bd hx h0 h1
  have w1 : IntKind.i64.wrap (h * x.fd) = h * x.fd := wrap_i64 _ (by omega) (by omega)
  have w2 : IntKind.i64.wrap (x.fu - h * x.fd) = lit x h := wrap_i64 _ (by unfold lit at hb; omega) (by unfold lit at hb; omega)
  simp only [go_sem, Nat.reduceEqDiff, Nat.reduceAdd, Nat.reduceLT, Nat.reduceLeDiff, reduceIte, NCells, w1, w2]
theorem Light_ok {x : Ln} (hx : NV x) {h : Int} (h0 : 0 ≤ h) (h1 : h ≤ 80) : RV ft 35 [encN x, I64 h] (I64 (lit x h)) := by
  refine RV_of ft35 rfl ?_
  simp only [c35, r35]
  have hb := lit_bd hx h0 h1
  have w1 : IntKind.i64.wrap (h * x.fd) = h * x.fd := wrap_i64 _ (by omega) (by omega)
  have w2 : IntKind.i64.wrap (x.fu - h * x.fd) = lit x h := wrap_i64 _ (by unfold lit at hb; omega) (by unfold lit at hb; omega)
  simp only [go_sem, Nat.reduceEqDiff, Nat.reduceAdd, Nat.reduceLT, Nat.reduceLeDiff, reduceIte, NCells, w1, w2]
theorem sameInts_ok (a b : List Int) (hl : a.length < 1073741824) : RV ft 23 [encIs a, encIs b] (.bool (a == b)) := by
  refine RV_of ft23 rfl ?_
  simp only [c23, r23]
  have hne : ((a.length : Int) != (b.length : Int)) = !(a.length == b.length) := by
    rw [bne]; congr 1
    rw [Bool.eq_iff_iff, beq_iff_eq, beq_iff_eq]; omega
  cases hL : (a.length == b.length)
  · have hf : (a == b) = false := by
      rw [beq_eq_false_iff_ne]; rintro rfl; simp at hL
    simp only [go_sem, Nat.reduceEqDiff, Nat.reduceAdd, Nat.reduceLT, Nat.reduceLeDiff, reduceIte, Is_len, hne, hL, hf]
  have hle : a.length = b.length := by simpa using hL
  simp only [go_sem, Nat.reduceEqDiff, Nat.reduceAdd, Nat.reduceLT, Nat.reduceLeDiff, reduceIte, Is_len, hne, hL]
  refine WL_inv (α := Nat × List Int × List Int) (fun q e mm => e 0 = encIs a ∧ e 1 = encIs b ∧ e 5 = I64 q.1 ∧ a.drop q.1 = q.2.1 ∧ b.drop q.1 = q.2.2 ∧ (q.2.1 == q.2.2) = (a == b)) (fun q => q.2.1.length) (0, a, b) ?_ ?_
  · simp only [go_sem, Nat.reduceEqDiff, Nat.reduceAdd, Nat.reduceLT, Nat.reduceLeDiff, reduceIte]
    ((repeat' apply And.intro) <;> first | trivial | rfl | omega | assumption)
  rintro ⟨k, r, r'⟩ e m ⟨g0, g1, g5, hd, hd', hq⟩
  dsimp only at g5 hd hd' hq
  cases r with
  | nil =>
    have h3 := drop_nil hd
    have : r' = [] := by rw [← hd']; exact List.drop_eq_nil_of_le (by omega)
    subst this
    simp only [go_sem, Nat.reduceEqDiff, Nat.reduceAdd, Nat.reduceLT, Nat.reduceLeDiff, reduceIte, g0, g1, g5, Is_len, dec_ge h3]
    rw [← hq]; rfl
  | cons x r =>
    obtain ⟨hk, hd2, hlt⟩ := drop_cons hd
    cases r' with
    | nil => have := drop_nil hd'; omega
    | cons y r' =>
      obtain ⟨hk', hd2', _⟩ := drop_cons hd'
      cases hxy : (x == y)
      · have hn : (x != y) = true := by rw [bne, hxy]; rfl
        simp only [go_sem, Nat.reduceEqDiff, Nat.reduceAdd, Nat.reduceLT, Nat.reduceLeDiff, reduceIte, g0, g1, g5, Is_len, dec_lt hlt, Is_idx hk, Is_idx hk', hn]
        rw [← hq, List.cons_beq_cons, hxy]; rfl
      · have hn : (x != y) = false := by rw [bne, hxy]; rfl
        simp only [go_sem, Nat.reduceEqDiff, Nat.reduceAdd, Nat.reduceLT, Nat.reduceLeDiff, reduceIte, g0, g1, g5, Is_len, dec_lt hlt, Is_idx hk, Is_idx hk', hn, wrap_n1 k (by omega)]
        refine Nx_of (k + 1, r, r') (by simp) ?_
        simp only [go_sem, Nat.reduceEqDiff, Nat.reduceAdd, Nat.reduceLT, Nat.reduceLeDiff, reduceIte, g0, g1]
        exact ⟨trivial, trivial, trivial, hd2, hd2', by rw [← hq, List.cons_beq_cons, hxy]; rfl⟩
end Go.Ab.T
end

section
namespace Go.Ab.T
set_option maxRecDepth 8000
set_option maxHeartbeats 4000000
/-- The first place where something is so, -1 if there is none. -/
def idxP {α : Type} (p : α → Bool) : List α → Nat → Int
  | [], _ => -1
  | x :: r, k => if p x = true then (k : Int) else idxP p r (k + 1)
theorem idxP_any {α : Type} (p : α → Bool) : ∀ (l : List α) (k : Nat), decide (0 ≤ idxP p l k) = l.any p
  | [], k => rfl
  | x :: r, k => by
    unfold idxP
    cases h : p x
    · simp only [Bool.false_eq_true, if_false, List.any_cons, h, Bool.false_or]
      exact idxP_any p r (k + 1)
    · simp only [if_true, List.any_cons, h, Bool.true_or]
      exact decide_eq_true (by omega)
theorem not_any_not {α : Type} (p : α → Bool) (l : List α) : (!(l.any fun x => !p x)) = l.all p := by
  rw [List.all_eq_not_any_not]
theorem IndexFuncG_ok (l : List Gg) (f : AV) (p : Gg → Bool) (hl : l.length < 1073741824)
    (hf : ∀ x ∈ l, ∀ (e : Nat → AV) (m : Mem) (K : AV → St → Prop), K (.bool (p x)) ⟨e, m⟩ → @WAH ft f [encG x] ⟨e, m⟩ ⟨K⟩) : RV ft 89 [encGs l, f] (I64 (idxP p l 0)) := by
  refine RV_of ft89 rfl ?_
  simp only [c89, r89]
  simp only [go_sem, Nat.reduceEqDiff, Nat.reduceAdd, Nat.reduceLT, Nat.reduceLeDiff, reduceIte]
  refine WL_inv (α := Nat × List Gg) (fun q e mm => e 0 = encGs l ∧ e 1 = f ∧ e 7 = I64 l.length ∧ e 8 = I64 q.1 ∧ l.drop q.1 = q.2 ∧ idxP p q.2 q.1 = idxP p l 0) (fun q => q.2.length) (0, l) ?_ ?_
  · simp only [go_sem, Nat.reduceEqDiff, Nat.reduceAdd, Nat.reduceLT, Nat.reduceLeDiff, reduceIte]
    ((repeat' apply And.intro) <;> first | trivial | rfl | omega | assumption)
  rintro ⟨k, r⟩ e m ⟨h0, h1, h7, h8, hd, hq⟩
  dsimp only at h8 hd hq
  cases r with
  | nil =>
    have h3 := drop_nil hd
    simp only [go_sem, Nat.reduceEqDiff, Nat.reduceAdd, Nat.reduceLT, Nat.reduceLeDiff, reduceIte, h0, h1, h7, h8, dec_ge h3]
    rw [← hq]; rfl
  | cons x r =>
    obtain ⟨hk, hd2, hlt⟩ := drop_cons hd
    simp only [go_sem, Nat.reduceEqDiff, Nat.reduceAdd, Nat.reduceLT, Nat.reduceLeDiff, reduceIte, h0, h1, h7, h8, dec_lt hlt, Gs_idx hk]
    refine hf x (List.mem_of_getElem? hk) _ _ _ ?_
    cases hx : p x
    · simp only [go_sem, Nat.reduceEqDiff, Nat.reduceAdd, Nat.reduceLT, Nat.reduceLeDiff, reduceIte, h0, h1, h7, h8, wrap_n1 k (by omega)]
      refine Nx_of (k + 1, r) (by simp) ?_
      simp only [go_sem, Nat.reduceEqDiff, Nat.reduceAdd, Nat.reduceLT, Nat.reduceLeDiff, reduceIte, h0, h1, h7]
      exact ⟨trivial, trivial, trivial, trivial, hd2, by rw [← hq]; simp [idxP, hx]⟩
    · simp only [go_sem, Nat.reduceEqDiff, Nat.reduceAdd, Nat.reduceLT, Nat.reduceLeDiff, reduceIte, h0, h1, h7, h8]
      rw [← hq]; simp [idxP, hx]
theorem ContainsFuncG_ok (l : List Gg) (f : AV) (p : Gg → Bool) (hl : l.length < 1073741824) (hs : ∀ (m : Mem) (q : Nat), snap m (q + 10) f = f) (hh : ∀ q, hot (q + 10) f = false)
    (hf : ∀ x ∈ l, ∀ (e : Nat → AV) (m : Mem) (K : AV → St → Prop), K (.bool (p x)) ⟨e, m⟩ → @WAH ft f [encG x] ⟨e, m⟩ ⟨K⟩) : RV ft 86 [encGs l, f] (.bool (l.any p)) := by
  refine RV_of ft86 rfl ?_
  simp only [c86, r86]
  simp only [go_sem, Nat.reduceEqDiff, Nat.reduceAdd, Nat.reduceLT, Nat.reduceLeDiff, reduceIte, WB89, hs, hh, WVH_eq (IndexFuncG_ok l f p hl hf), true_and, idxP_any]
theorem allG_ok (l : List Gg) (g : AV) (p : Gg → Bool) (hl : l.length < 1073741824) (hc : g.cells = [g]) (hso : g.solid = true) (hs : ∀ (m : Mem) (q : Nat), snap m (q + 8) g = g) (hh : ∀ q, hot (q + 8) g = false)
    (hf : ∀ x ∈ l, ∀ (e : Nat → AV) (m : Mem) (K : AV → St → Prop), K (.bool (p x)) ⟨e, m⟩ → @WAH ft g [encG x] ⟨e, m⟩ ⟨K⟩) : RV ft 74 [encGs l, g] (.bool (l.all p)) := by
  refine RV_of ft74 rfl ?_
  simp only [c74, r74]
  have hk : ∀ x ∈ l, RV ft 87 [encG x, .pv g 0] (.bool (!p x)) := fun x hx => by
    refine RV_of ft87 rfl ?_
    simp only [c87, r87]
    simp only [go_sem, Nat.reduceEqDiff, Nat.reduceAdd, Nat.reduceLT, Nat.reduceLeDiff, reduceIte, hc]
    refine hf x hx _ _ _ ?_
    simp only [go_sem, Nat.reduceEqDiff, Nat.reduceAdd, Nat.reduceLT, Nat.reduceLeDiff, reduceIte]
  have hC := ContainsFuncG_ok l (.fn 87 [] [.pv g 0]) (fun x => !p x) hl (fun m q => by
    show AV.fn 87 [] [.pv (snap m (q + 8) g) 0] = _
    rw [hs]) (fun q => by
    show (false || (hot (q + 8) g || false)) = false
    rw [hh]; rfl) (fun x hx e m K hK => by
    rw [WAH_fn]
    simp only [List.nil_append, List.cons_append]
    simp only [go_sem, Nat.reduceEqDiff, Nat.reduceAdd, Nat.reduceLT, Nat.reduceLeDiff, reduceIte, WB87, hs, hh, WVH_eq (hk x hx), true_and]
    exact hK)
  simp only [go_sem, Nat.reduceEqDiff, Nat.reduceAdd, Nat.reduceLT, Nat.reduceLeDiff, reduceIte, hc, hso, hs, hh, WB86, WVH_eq hC, true_and, not_any_not]
theorem IndexFuncI_ok (l : List Int) (f : AV) (p : Int → Bool) (hl : l.length < 1073741824)
    (hf : ∀ x ∈ l, ∀ (e : Nat → AV) (m : Mem) (K : AV → St → Prop), K (.bool (p x)) ⟨e, m⟩ → @WAH ft f [I64 x] ⟨e, m⟩ ⟨K⟩) : RV ft 88 [encIs l, f] (I64 (idxP p l 0)) := by
  refine RV_of ft88 rfl ?_
  simp only [c88, r88]
  simp only [go_sem, Nat.reduceEqDiff, Nat.reduceAdd, Nat.reduceLT, Nat.reduceLeDiff, reduceIte]
  refine WL_inv (α := Nat × List Int) (fun q e mm => e 0 = encIs l ∧ e 1 = f ∧ e 7 = I64 l.length ∧ e 8 = I64 q.1 ∧ l.drop q.1 = q.2 ∧ idxP p q.2 q.1 = idxP p l 0) (fun q => q.2.length) (0, l) ?_ ?_
  · simp only [go_sem, Nat.reduceEqDiff, Nat.reduceAdd, Nat.reduceLT, Nat.reduceLeDiff, reduceIte]
    ((repeat' apply And.intro) <;> first | trivial | rfl | omega | assumption)
  rintro ⟨k, r⟩ e m ⟨h0, h1, h7, h8, hd, hq⟩
  dsimp only at h8 hd hq
  cases r with
  | nil =>
    have h3 := drop_nil hd
    simp only [go_sem, Nat.reduceEqDiff, Nat.reduceAdd, Nat.reduceLT, Nat.reduceLeDiff, reduceIte, h0, h1, h7, h8, dec_ge h3]
    rw [← hq]; rfl
  | cons x r =>
    obtain ⟨hk, hd2, hlt⟩ := drop_cons hd
    simp only [go_sem, Nat.reduceEqDiff, Nat.reduceAdd, Nat.reduceLT, Nat.reduceLeDiff, reduceIte, h0, h1, h7, h8, dec_lt hlt, Is_idx hk]
    refine hf x (List.mem_of_getElem? hk) _ _ _ ?_
    cases hx : p x
    · simp only [go_sem, Nat.reduceEqDiff, Nat.reduceAdd, Nat.reduceLT, Nat.reduceLeDiff, reduceIte, h0, h1, h7, h8, wrap_n1 k (by omega)]
      refine Nx_of (k + 1, r) (by simp) ?_
      simp only [go_sem, Nat.reduceEqDiff, Nat.reduceAdd, Nat.reduceLT, Nat.reduceLeDiff, reduceIte, h0, h1, h7]
      exact ⟨trivial, trivial, trivial, trivial, hd2, by rw [← hq]; simp [idxP, hx]⟩
    · simp only [go_sem, Nat.reduceEqDiff, Nat.reduceAdd, Nat.reduceLT, Nat.reduceLeDiff, reduceIte, h0, h1, h7, h8]
      rw [← hq]; simp [idxP, hx]
theorem ContainsFuncI_ok (l : List Int) (f : AV) (p : Int → Bool) (hl : l.length < 1073741824) (hs : ∀ (m : Mem) (q : Nat), snap m (q + 10) f = f) (hh : ∀ q, hot (q + 10) f = false)
    (hf : ∀ x ∈ l, ∀ (e : Nat → AV) (m : Mem) (K : AV → St → Prop), K (.bool (p x)) ⟨e, m⟩ → @WAH ft f [I64 x] ⟨e, m⟩ ⟨K⟩) : RV ft 83 [encIs l, f] (.bool (l.any p)) := by
  refine RV_of ft83 rfl ?_
  simp only [c83, r83]
  simp only [go_sem, Nat.reduceEqDiff, Nat.reduceAdd, Nat.reduceLT, Nat.reduceLeDiff, reduceIte, WB88, hs, hh, WVH_eq (IndexFuncI_ok l f p hl hf), true_and, idxP_any]
theorem allI_ok (l : List Int) (g : AV) (p : Int → Bool) (hl : l.length < 1073741824) (hc : g.cells = [g]) (hso : g.solid = true) (hs : ∀ (m : Mem) (q : Nat), snap m (q + 8) g = g) (hh : ∀ q, hot (q + 8) g = false)
    (hf : ∀ x ∈ l, ∀ (e : Nat → AV) (m : Mem) (K : AV → St → Prop), K (.bool (p x)) ⟨e, m⟩ → @WAH ft g [I64 x] ⟨e, m⟩ ⟨K⟩) : RV ft 66 [encIs l, g] (.bool (l.all p)) := by
  refine RV_of ft66 rfl ?_
  simp only [c66, r66]
  have hk : ∀ x ∈ l, RV ft 84 [I64 x, .pv g 0] (.bool (!p x)) := fun x hx => by
    refine RV_of ft84 rfl ?_
    simp only [c84, r84]
    simp only [go_sem, Nat.reduceEqDiff, Nat.reduceAdd, Nat.reduceLT, Nat.reduceLeDiff, reduceIte, hc]
    refine hf x hx _ _ _ ?_
    simp only [go_sem, Nat.reduceEqDiff, Nat.reduceAdd, Nat.reduceLT, Nat.reduceLeDiff, reduceIte]
  have hC := ContainsFuncI_ok l (.fn 84 [] [.pv g 0]) (fun x => !p x) hl (fun m q => by
    show AV.fn 84 [] [.pv (snap m (q + 8) g) 0] = _
    rw [hs]) (fun q => by
    show (false || (hot (q + 8) g || false)) = false
    rw [hh]; rfl) (fun x hx e m K hK => by
    rw [WAH_fn]
    simp only [List.nil_append, List.cons_append]
    simp only [go_sem, Nat.reduceEqDiff, Nat.reduceAdd, Nat.reduceLT, Nat.reduceLeDiff, reduceIte, WB84, hs, hh, WVH_eq (hk x hx), true_and]
    exact hK)
  simp only [go_sem, Nat.reduceEqDiff, Nat.reduceAdd, Nat.reduceLT, Nat.reduceLeDiff, reduceIte, hc, hso, hs, hh, WB83, WVH_eq hC, true_and, not_any_not]
theorem allGauges_ok (l : List Gg) (hl : l.length < 1073741824) : RV ft 74 [encGs l, .fn 75 [] []] (.bool (l.all gOK)) :=
  allG_ok l _ gOK hl rfl rfl (fun _ _ => rfl) (fun _ => rfl) fun x _ e m K hK => by
    rw [WAH_fn]
    simp only [List.nil_append, List.append_nil]
    simp only [go_sem, Nat.reduceEqDiff, Nat.reduceAdd, Nat.reduceLT, Nat.reduceLeDiff, reduceIte, WB75, WVH_eq (validGauge_ok x), true_and, snG, hotG]
    exact hK
theorem allHours_ok (l : List Int) (hl : l.length < 1073741824) : RV ft 66 [encIs l, .fn 63 [] []] (.bool (l.all hrR)) :=
  allI_ok l _ hrR hl rfl rfl (fun _ _ => rfl) (fun _ => rfl) fun x _ e m K hK => by
    rw [WAH_fn]
    simp only [List.nil_append, List.append_nil]
    simp only [go_sem, Nat.reduceEqDiff, Nat.reduceAdd, Nat.reduceLT, Nat.reduceLeDiff, reduceIte, WB63, WVH_eq (isHour_ok x), true_and]
    exact hK
theorem validLamp_ok (l : Lm) (hl : l.gs.length < 1073741824) : RV ft 49 [encL l] (.bool (okL l)) := by
  refine RV_of ft49 rfl ?_
  simp only [c49, r49]
  unfold okL
  cases d0 : spR l.fu 0 400
  case false => simp only [go_sem, Nat.reduceEqDiff, Nat.reduceAdd, Nat.reduceLT, Nat.reduceLeDiff, reduceIte, LCells, SEta, GsCells, GsSolid, Gs_len, snS, hotS, snGs, hotGs, WB73, WVH_eq (isSpanWithin_ok _ _ _), WB63, WVH_eq (isHour_ok _), WB74, WVH_eq (allGauges_ok _ hl), WB76, WVH_eq (isWithin_ok _ _ _), true_and, d0]
  cases d1 : spR l.no 0 400
  case false => simp only [go_sem, Nat.reduceEqDiff, Nat.reduceAdd, Nat.reduceLT, Nat.reduceLeDiff, reduceIte, LCells, SEta, GsCells, GsSolid, Gs_len, snS, hotS, snGs, hotGs, WB73, WVH_eq (isSpanWithin_ok _ _ _), WB63, WVH_eq (isHour_ok _), WB74, WVH_eq (allGauges_ok _ hl), WB76, WVH_eq (isWithin_ok _ _ _), true_and, d0, d1]
  cases d2 : spR l.fd 0 9
  case false => simp only [go_sem, Nat.reduceEqDiff, Nat.reduceAdd, Nat.reduceLT, Nat.reduceLeDiff, reduceIte, LCells, SEta, GsCells, GsSolid, Gs_len, snS, hotS, snGs, hotGs, WB73, WVH_eq (isSpanWithin_ok _ _ _), WB63, WVH_eq (isHour_ok _), WB74, WVH_eq (allGauges_ok _ hl), WB76, WVH_eq (isWithin_ok _ _ _), true_and, d0, d1, d2]
  cases d3 : hrR l.ra
  case false => simp only [go_sem, Nat.reduceEqDiff, Nat.reduceAdd, Nat.reduceLT, Nat.reduceLeDiff, reduceIte, LCells, SEta, GsCells, GsSolid, Gs_len, snS, hotS, snGs, hotGs, WB73, WVH_eq (isSpanWithin_ok _ _ _), WB63, WVH_eq (isHour_ok _), WB74, WVH_eq (allGauges_ok _ hl), WB76, WVH_eq (isWithin_ok _ _ _), true_and, d0, d1, d2, d3]
  cases d4 : decide ((l.gs.length : Int) ≤ 10)
  case false => simp only [go_sem, Nat.reduceEqDiff, Nat.reduceAdd, Nat.reduceLT, Nat.reduceLeDiff, reduceIte, LCells, SEta, GsCells, GsSolid, Gs_len, snS, hotS, snGs, hotGs, WB73, WVH_eq (isSpanWithin_ok _ _ _), WB63, WVH_eq (isHour_ok _), WB74, WVH_eq (allGauges_ok _ hl), WB76, WVH_eq (isWithin_ok _ _ _), true_and, d0, d1, d2, d3, d4]
  cases d5 : l.gs.all gOK
  case false => simp only [go_sem, Nat.reduceEqDiff, Nat.reduceAdd, Nat.reduceLT, Nat.reduceLeDiff, reduceIte, LCells, SEta, GsCells, GsSolid, Gs_len, snS, hotS, snGs, hotGs, WB73, WVH_eq (isSpanWithin_ok _ _ _), WB63, WVH_eq (isHour_ok _), WB74, WVH_eq (allGauges_ok _ hl), WB76, WVH_eq (isWithin_ok _ _ _), true_and, d0, d1, d2, d3, d4, d5]
  cases d6 : inR l.wr 0 3
  case false => simp only [go_sem, Nat.reduceEqDiff, Nat.reduceAdd, Nat.reduceLT, Nat.reduceLeDiff, reduceIte, LCells, SEta, GsCells, GsSolid, Gs_len, snS, hotS, snGs, hotGs, WB73, WVH_eq (isSpanWithin_ok _ _ _), WB63, WVH_eq (isHour_ok _), WB74, WVH_eq (allGauges_ok _ hl), WB76, WVH_eq (isWithin_ok _ _ _), true_and, d0, d1, d2, d3, d4, d5, d6]
  simp only [go_sem, Nat.reduceEqDiff, Nat.reduceAdd, Nat.reduceLT, Nat.reduceLeDiff, reduceIte, LCells, SEta, GsCells, GsSolid, Gs_len, snS, hotS, snGs, hotGs, WB73, WVH_eq (isSpanWithin_ok _ _ _), WB63, WVH_eq (isHour_ok _), WB74, WVH_eq (allGauges_ok _ hl), WB76, WVH_eq (isWithin_ok _ _ _), true_and, d0, d1, d2, d3, d4, d5, d6]
theorem Check_ok (l : Lm) (hl : l.gs.length < 1073741824) : RV ft 21 [encL l] (I64 (if okL l = true then 0 else 90)) := by
  refine RV_of ft21 rfl ?_
  simp only [c21, r21]
  cases h : okL l <;> simp only [go_sem, Nat.reduceEqDiff, Nat.reduceAdd, Nat.reduceLT, Nat.reduceLeDiff, reduceIte, LCells, LEta, GsSolid, snL, hotL, WB49, WVH_eq (validLamp_ok l hl), true_and, h]
  rfl
theorem validDays_ok (ds : List Int) (hl : ds.length < 1073741824) : RV ft 64 [encIs ds] (.bool (decide ((ds.length : Int) ≤ 30) && ds.all hrR)) := by
  refine RV_of ft64 rfl ?_
  simp only [c64, r64]
  cases h : decide ((ds.length : Int) ≤ 30) <;> simp only [go_sem, Nat.reduceEqDiff, Nat.reduceAdd, Nat.reduceLT, Nat.reduceLeDiff, reduceIte, Is_len, snIs, hotIs, WB66, WVH_eq (allHours_ok _ hl), true_and, h]
/-- The reference's order. -/
def okL' (l : Lm) : Bool := spR l.fu 0 400 && (spR l.fd 0 9 && (spR l.no 0 400 && (hrR l.ra && (!decide (10 < (l.gs.length : Int)) && (inR l.wr 0 3 && l.gs.all gOK)))))
theorem okL_eq (l : Lm) : okL' l = okL l := by
  unfold okL' okL
  rw [Bool.eq_iff_iff]
  simp only [Bool.and_eq_true, Bool.not_eq_true', decide_eq_false_iff_not, decide_eq_true_eq]
  constructor
  · rintro ⟨a, b, c, d, e, f, g⟩
    exact ⟨a, c, b, d, by omega, g, f⟩
  · rintro ⟨a, c, b, d, e, g, f⟩
    exact ⟨a, b, c, d, by omega, f, g⟩
theorem gOK_ref (g : Gg) : (hrR g.hr && (inR g.lo (-400) g.hi && !decide (400 < g.hi))) = gOK g := by
  unfold gOK spR inR
  rw [Bool.eq_iff_iff]
  simp only [Bool.and_eq_true, Bool.not_eq_true', decide_eq_false_iff_not, decide_eq_true_eq]
  constructor
  · rintro ⟨a, ⟨b, c⟩, d⟩; exact ⟨a, b, c, by omega⟩
  · rintro ⟨a, b, c, d⟩; exact ⟨a, ⟨b, c⟩, by omega⟩
theorem CheckR_ok (l : Lm) (hl : l.gs.length < 1073741824) : RV ft 22 [encL l] (I64 (if okL l = true then 0 else 90)) := by
  rw [← okL_eq]
  refine RV_of ft22 rfl ?_
  simp only [c22, r22]
  unfold okL'
  have hq : ∀ n, inR n 0 40 = hrR n := fun _ => rfl
  cases d0 : spR l.fu 0 400
  case false => simp only [go_sem, Nat.reduceEqDiff, Nat.reduceAdd, Nat.reduceLT, Nat.reduceLeDiff, reduceIte, LCells, SEta, GsCells, GsSolid, Gs_len, snS, hotS, snGs, hotGs, WB54, WVH_eq (isSpan_ok _ _), WB55, WVH_eq (within_ok _ _ _), hq, true_and, d0]; rfl
  cases d1 : spR l.fd 0 9
  case false => simp only [go_sem, Nat.reduceEqDiff, Nat.reduceAdd, Nat.reduceLT, Nat.reduceLeDiff, reduceIte, LCells, SEta, GsCells, GsSolid, Gs_len, snS, hotS, snGs, hotGs, WB54, WVH_eq (isSpan_ok _ _), WB55, WVH_eq (within_ok _ _ _), hq, true_and, d0, d1]; rfl
  cases d2 : spR l.no 0 400
  case false => simp only [go_sem, Nat.reduceEqDiff, Nat.reduceAdd, Nat.reduceLT, Nat.reduceLeDiff, reduceIte, LCells, SEta, GsCells, GsSolid, Gs_len, snS, hotS, snGs, hotGs, WB54, WVH_eq (isSpan_ok _ _), WB55, WVH_eq (within_ok _ _ _), hq, true_and, d0, d1, d2]; rfl
  cases d3 : hrR l.ra
  case false => simp only [go_sem, Nat.reduceEqDiff, Nat.reduceAdd, Nat.reduceLT, Nat.reduceLeDiff, reduceIte, LCells, SEta, GsCells, GsSolid, Gs_len, snS, hotS, snGs, hotGs, WB54, WVH_eq (isSpan_ok _ _), WB55, WVH_eq (within_ok _ _ _), hq, true_and, d0, d1, d2, d3]; rfl
  cases d4 : decide (10 < (l.gs.length : Int))
  case true => simp only [go_sem, Nat.reduceEqDiff, Nat.reduceAdd, Nat.reduceLT, Nat.reduceLeDiff, reduceIte, LCells, SEta, GsCells, GsSolid, Gs_len, snS, hotS, snGs, hotGs, WB54, WVH_eq (isSpan_ok _ _), WB55, WVH_eq (within_ok _ _ _), hq, true_and, d0, d1, d2, d3, d4]; rfl
  cases d5 : inR l.wr 0 3
  case false => simp only [go_sem, Nat.reduceEqDiff, Nat.reduceAdd, Nat.reduceLT, Nat.reduceLeDiff, reduceIte, LCells, SEta, GsCells, GsSolid, Gs_len, snS, hotS, snGs, hotGs, WB54, WVH_eq (isSpan_ok _ _), WB55, WVH_eq (within_ok _ _ _), hq, true_and, d0, d1, d2, d3, d4, d5]; rfl
  simp only [go_sem, Nat.reduceEqDiff, Nat.reduceAdd, Nat.reduceLT, Nat.reduceLeDiff, reduceIte, LCells, SEta, GsCells, GsSolid, Gs_len, snS, hotS, snGs, hotGs, WB54, WVH_eq (isSpan_ok _ _), WB55, WVH_eq (within_ok _ _ _), hq, true_and, d0, d1, d2, d3, d4, d5]
  refine WL_inv (α := Nat × List Gg) (fun q e mm => e 1 = .ptr 0 0 0 ∧ e 3 = I64 q.1 ∧ l.gs.drop q.1 = q.2 ∧ q.2.all gOK = l.gs.all gOK ∧ ∃ bl, mm = ⟨.live [encL l] 9 :: bl, []⟩) (fun q => q.2.length) (0, l.gs) ?_ ?_
  · simp only [go_sem, Nat.reduceEqDiff, Nat.reduceAdd, Nat.reduceLT, Nat.reduceLeDiff, reduceIte]
    exact ⟨trivial, rfl, trivial, trivial, _, rfl⟩
  rintro ⟨k, r⟩ e m ⟨g1, g3, hd, ha, bl, rfl⟩
  dsimp only at g3 hd ha
  cases r with
  | nil =>
    have h3 := drop_nil hd
    simp only [go_sem, Nat.reduceEqDiff, Nat.reduceAdd, Nat.reduceLT, Nat.reduceLeDiff, reduceIte, g1, g3, LCells, Gs_len, dec_ge h3]
    rw [← ha]; rfl
  | cons x r =>
    obtain ⟨hk, hd2, hlt⟩ := drop_cons hd
    have hx := gOK_ref x
    cases e1 : hrR x.hr
    · rw [e1, Bool.false_and] at hx
      simp only [go_sem, Nat.reduceEqDiff, Nat.reduceAdd, Nat.reduceLT, Nat.reduceLeDiff, reduceIte, g1, g3, LCells, Gs_len, dec_lt hlt, Gs_idx hk, GCells, get_last, WB55, WVH_eq (within_ok _ _ _), hq, true_and, e1]
      rw [← ha, List.all_cons, ← hx]; rfl
    cases e2 : inR x.lo (-400) x.hi
    · rw [e1, e2, Bool.false_and, Bool.and_false] at hx
      simp only [go_sem, Nat.reduceEqDiff, Nat.reduceAdd, Nat.reduceLT, Nat.reduceLeDiff, reduceIte, g1, g3, LCells, Gs_len, dec_lt hlt, Gs_idx hk, GCells, get_last, WB55, WVH_eq (within_ok _ _ _), hq, true_and, e1, e2]
      rw [← ha, List.all_cons, ← hx]; rfl
    cases e3 : decide (400 < x.hi)
    case true =>
      rw [e1, e2, e3] at hx
      simp only [go_sem, Nat.reduceEqDiff, Nat.reduceAdd, Nat.reduceLT, Nat.reduceLeDiff, reduceIte, g1, g3, LCells, Gs_len, dec_lt hlt, Gs_idx hk, GCells, get_last, WB55, WVH_eq (within_ok _ _ _), hq, true_and, e1, e2, e3]
      rw [← ha, List.all_cons, ← hx]; rfl
    rw [e1, e2, e3] at hx
    simp only [go_sem, Nat.reduceEqDiff, Nat.reduceAdd, Nat.reduceLT, Nat.reduceLeDiff, reduceIte, g1, g3, LCells, Gs_len, dec_lt hlt, Gs_idx hk, GCells, get_last, WB55, WVH_eq (within_ok _ _ _), hq, true_and, e1, e2, e3, wrap_n1 k (by omega)]
    refine Nx_of (k + 1, r) (by simp) ?_
    simp only [go_sem, Nat.reduceEqDiff, Nat.reduceAdd, Nat.reduceLT, Nat.reduceLeDiff, reduceIte, g1]
    exact ⟨trivial, trivial, hd2, by rw [← ha, List.all_cons, ← hx]; rfl, _, rfl⟩
end Go.Ab.T
end

section
namespace Go.Ab.T
set_option maxRecDepth 8000
set_option maxHeartbeats 4000000
/-! ### Function values -/
def cA (h : Int) : AV := .fn 78 [] [.pv (I64 h) 0]
def cI (s : Sp) (h : Int) : AV := .fn 80 [] [.pv (I64 h) 0, .pv (encS s) 0]
def cW (gs : List Gg) : AV := .fn 72 [] [.pv (encGs gs) 0]
def cK (l : Lm) (h : Int) : AV := .fn 82 [] [.pv (I64 h) 0, .pv (encL l) 0]
def cL (l : Lm) : AV := .fn 71 [] [.pv (encL l) 0]
def cT (l : Lm) : AV := .fn 70 [] [.pv (encL l) 0, .pv (cW l.gs) 0]
def cS (f : AV) : AV := .fn 81 [] [.pv f 0]
theorem snCA (m : Mem) (q : Nat) (h : Int) : snap m (q + 7) (cA h) = cA h := rfl
theorem snCI (m : Mem) (q : Nat) (s : Sp) (h : Int) : snap m (q + 7) (cI s h) = cI s h := rfl
theorem snCW (m : Mem) (q : Nat) (gs : List Gg) : snap m (q + 6) (cW gs) = cW gs := by
  show AV.fn 72 [] [.pv (snap m (q + 4) (encGs gs)) 0] = _
  rw [snGs]; rfl
theorem snCK (m : Mem) (q : Nat) (l : Lm) (h : Int) : snap m (q + 6) (cK l h) = cK l h := by
  show AV.fn 82 [] [.pv (I64 h) 0, .pv (snap m (q + 4) (encL l)) 0] = _
  rw [snL]; rfl
theorem snCL (m : Mem) (q : Nat) (l : Lm) : snap m (q + 6) (cL l) = cL l := by
  show AV.fn 71 [] [.pv (snap m (q + 4) (encL l)) 0] = _
  rw [snL]; rfl
theorem snCT (m : Mem) (q : Nat) (l : Lm) : snap m (q + 8) (cT l) = cT l := by
  show AV.fn 70 [] [.pv (snap m (q + 6) (encL l)) 0, .pv (snap m (q + 6) (cW l.gs)) 0] = _
  rw [snL, snCW]; rfl
theorem hotCA (q : Nat) (h : Int) : hot (q + 7) (cA h) = false := rfl
theorem hotCI (q : Nat) (s : Sp) (h : Int) : hot (q + 7) (cI s h) = false := rfl
theorem hotCW (q : Nat) (gs : List Gg) : hot (q + 6) (cW gs) = false := by
  show (false || (hot (q + 4) (encGs gs) || false)) = false
  rw [hotGs]; rfl
theorem hotCK (q : Nat) (l : Lm) (h : Int) : hot (q + 6) (cK l h) = false := by
  show (false || (false || (hot (q + 4) (encL l) || false))) = false
  rw [hotL]; rfl
theorem hotCL (q : Nat) (l : Lm) : hot (q + 6) (cL l) = false := by
  show (false || (hot (q + 4) (encL l) || false)) = false
  rw [hotL]; rfl
theorem hotCT (q : Nat) (l : Lm) : hot (q + 8) (cT l) = false := by
  show (false || (hot (q + 6) (encL l) || (hot (q + 6) (cW l.gs) || false))) = false
  rw [hotL, hotCW]; rfl
theorem caCells (h : Int) : (cA h).cells = [cA h] := rfl
theorem caSolid (h : Int) : (cA h).solid = true := rfl
theorem caAgg (h : Int) : (cA h).isAgg = false := rfl
theorem ciCells (s : Sp) (h : Int) : (cI s h).cells = [cI s h] := rfl
theorem ciSolid (s : Sp) (h : Int) : (cI s h).solid = true := rfl
theorem ciAgg (s : Sp) (h : Int) : (cI s h).isAgg = false := rfl
theorem cwCells (gs : List Gg) : (cW gs).cells = [cW gs] := rfl
theorem cwSolid (gs : List Gg) : (cW gs).solid = true := rfl
theorem cwAgg (gs : List Gg) : (cW gs).isAgg = false := rfl
theorem ckCells (l : Lm) (h : Int) : (cK l h).cells = [cK l h] := rfl
theorem ckSolid (l : Lm) (h : Int) : (cK l h).solid = true := rfl
theorem ckAgg (l : Lm) (h : Int) : (cK l h).isAgg = false := rfl
attribute [go_sem] snCA snCI snCW snCK snCL snCT hotCA hotCI hotCW hotCK hotCL hotCT caCells caSolid caAgg ciCells ciSolid ciAgg cwCells cwSolid cwAgg ckCells ckSolid ckAgg
theorem lightAt_ok (h : Int) : RV ft 57 [I64 h] (cA h) := by
  refine RV_of ft57 rfl ?_
  simp only [c57, r57]
  simp only [go_sem, Nat.reduceEqDiff, Nat.reduceAdd, Nat.reduceLT, Nat.reduceLeDiff, reduceIte]
  rfl
theorem isWithinAt_ok (s : Sp) (h : Int) : RV ft 59 [encS s, I64 h] (cI s h) := by
  refine RV_of ft59 rfl ?_
  simp only [c59, r59]
  simp only [go_sem, Nat.reduceEqDiff, Nat.reduceAdd, Nat.reduceLT, Nat.reduceLeDiff, reduceIte]
  rfl
theorem isRight_ok (g : Gg) : RV ft 52 [encG g] (cI ⟨g.lo, g.hi⟩ g.hr) := by
  refine RV_of ft52 rfl ?_
  simp only [c52, r52]
  have hE : AV.agg [I64 g.lo, I64 g.hi] = encS ⟨g.lo, g.hi⟩ := rfl
  simp only [go_sem, Nat.reduceEqDiff, Nat.reduceAdd, Nat.reduceLT, Nat.reduceLeDiff, reduceIte, hE, WB59, WVH_eq (isWithinAt_ok _ _), true_and]
theorem wrongs_ok (gs : List Gg) : RV ft 47 [encGs gs] (cW gs) := by
  refine RV_of ft47 rfl ?_
  simp only [c47, r47]
  simp only [go_sem, Nat.reduceEqDiff, Nat.reduceAdd, Nat.reduceLT, Nat.reduceLeDiff, reduceIte]
  rfl
theorem lastKept_ok (l : Lm) (h : Int) : RV ft 62 [encL l, I64 h] (cK l h) := by
  refine RV_of ft62 rfl ?_
  simp only [c62, r62]
  simp only [go_sem, Nat.reduceEqDiff, Nat.reduceAdd, Nat.reduceLT, Nat.reduceLeDiff, reduceIte]
  rfl
theorem lines_ok (l : Lm) : RV ft 46 [encL l] (cL l) := by
  refine RV_of ft46 rfl ?_
  simp only [c46, r46]
  simp only [go_sem, Nat.reduceEqDiff, Nat.reduceAdd, Nat.reduceLT, Nat.reduceLeDiff, reduceIte]
  rfl
theorem truths_ok (l : Lm) : RV ft 43 [encL l] (cT l) := by
  refine RV_of ft43 rfl ?_
  simp only [c43, r43]
  simp only [go_sem, Nat.reduceEqDiff, Nat.reduceAdd, Nat.reduceLT, Nat.reduceLeDiff, reduceIte, WB47, WVH_eq (wrongs_ok _), true_and]
  rfl
/-! ### What they give -/
theorem cA_run {x : Ln} (hx : NV x) {h : Int} (h0 : 0 ≤ h) (h1 : h ≤ 80) : RV ft 78 [encN x, .pv (I64 h) 0] (I64 (lit x h)) := by
  refine RV_of ft78 rfl ?_
  simp only [c78, r78]
  simp only [go_sem, Nat.reduceEqDiff, Nat.reduceAdd, Nat.reduceLT, Nat.reduceLeDiff, reduceIte, NEta, WB79, WVH_eq (at_ok hx h0 h1), true_and]
theorem cI_run {x : Ln} (hx : NV x) (s : Sp) {h : Int} (h0 : 0 ≤ h) (h1 : h ≤ 80) : RV ft 80 [encN x, .pv (I64 h) 0, .pv (encS s) 0] (.bool (inS s (lit x h))) := by
  refine RV_of ft80 rfl ?_
  simp only [c80, r80]
  simp only [go_sem, Nat.reduceEqDiff, Nat.reduceAdd, Nat.reduceLT, Nat.reduceLeDiff, reduceIte, NEta, WB79, WVH_eq (at_ok hx h0 h1), WB76, WVH_eq (isWithin_ok _ _ _), true_and]
  rfl
theorem cI_app {x : Ln} (hx : NV x) (s : Sp) {h : Int} (h0 : 0 ≤ h) (h1 : h ≤ 80) (st : St) (K : AV → St → Prop) : @WAH ft (cI s h) [encN x] st ⟨K⟩ = K (.bool (inS s (lit x h))) st := by
  rw [cI, WAH_fn]
  simp only [List.nil_append, List.cons_append]
  simp only [go_sem, Nat.reduceEqDiff, Nat.reduceAdd, Nat.reduceLT, Nat.reduceLeDiff, reduceIte, WB80, WVH_eq (cI_run hx s h0 h1), true_and]
theorem cA_app {x : Ln} (hx : NV x) {h : Int} (h0 : 0 ≤ h) (h1 : h ≤ 80) (st : St) (K : AV → St → Prop) : @WAH ft (cA h) [encN x] st ⟨K⟩ = K (I64 (lit x h)) st := by
  rw [cA, WAH_fn]
  simp only [List.nil_append, List.cons_append]
  simp only [go_sem, Nat.reduceEqDiff, Nat.reduceAdd, Nat.reduceLT, Nat.reduceLeDiff, reduceIte, WB78, WVH_eq (cA_run hx h0 h1), true_and]
def wrA (gs : List Gg) (x : Ln) (n : Nat) : Nat := n + wrN gs x
theorem wrN_cons (g : Gg) (gs : List Gg) (x : Ln) : wrN (g :: gs) x = (if okG x g = true then 0 else 1) + wrN gs x := by
  unfold wrN
  rw [List.filter_cons]
  cases okG x g
  · simp; omega
  · simp
theorem cW_run {x : Ln} (hx : NV x) (gs : List Gg) (hl : gs.length < 1073741824) (hg : ∀ g ∈ gs, 0 ≤ g.hr ∧ g.hr ≤ 80) : RV ft 72 [encN x, .pv (encGs gs) 0] (I64 (wrN gs x : Nat)) := by
  refine RV_of ft72 rfl ?_
  simp only [c72, r72]
  simp only [go_sem, Nat.reduceEqDiff, Nat.reduceAdd, Nat.reduceLT, Nat.reduceLeDiff, reduceIte]
  refine WL_inv (α := Nat × List Gg × Nat) (fun q e mm => e 2 = .ptr 0 0 0 ∧ e 4 = I64 (q.2.2 : Int) ∧ e 7 = encGs gs ∧ e 8 = I64 gs.length ∧ e 9 = I64 q.1 ∧ gs.drop q.1 = q.2.1 ∧ wrA q.2.1 x q.2.2 = wrN gs x ∧ ∃ bl, mm = ⟨.live [encN x] 2 :: bl, []⟩) (fun q => q.2.1.length) (0, gs, 0) ?_ ?_
  · simp only [go_sem, Nat.reduceEqDiff, Nat.reduceAdd, Nat.reduceLT, Nat.reduceLeDiff, reduceIte]
    exact ⟨trivial, rfl, trivial, trivial, rfl, trivial, Nat.zero_add _, _, rfl⟩
  rintro ⟨k, r, n⟩ e m ⟨g2, g4, g7, g8, g9, hd, ha, bl, rfl⟩
  dsimp only at g4 g9 hd ha
  cases r with
  | nil =>
    have h3 := drop_nil hd
    simp only [go_sem, Nat.reduceEqDiff, Nat.reduceAdd, Nat.reduceLT, Nat.reduceLeDiff, reduceIte, g2, g4, g7, g8, g9, dec_ge h3]
    rw [← ha]; rfl
  | cons y r =>
    obtain ⟨hk, hd2, hlt⟩ := drop_cons hd
    have hy := hg y (List.mem_of_getElem? hk)
    have hn : n ≤ gs.length := by
      have := wrN_le gs x
      unfold wrA at ha; omega
    have hcI := @cI_app x hx ⟨y.lo, y.hi⟩ y.hr hy.1 hy.2
    have hin : inS ⟨y.lo, y.hi⟩ (lit x y.hr) = okG x y := rfl
    rw [hin] at hcI
    cases ho : okG x y
    · rw [ho] at hcI
      simp only [go_sem, Nat.reduceEqDiff, Nat.reduceAdd, Nat.reduceLT, Nat.reduceLeDiff, reduceIte, g2, g4, g7, g8, g9, dec_lt hlt, Gs_idx hk, GEta, NEta, get_last, set_last, WB52, WVH_eq (isRight_ok _), true_and, hcI, wrap_n1 n (by omega), wrap_n1 k (by omega)]
      refine Nx_of (k + 1, r, n + 1) (by simp) ?_
      simp only [go_sem, Nat.reduceEqDiff, Nat.reduceAdd, Nat.reduceLT, Nat.reduceLeDiff, reduceIte, g2, g7, g8]
      exact ⟨trivial, trivial, trivial, trivial, trivial, hd2, by rw [← ha]; unfold wrA; rw [wrN_cons, ho, if_neg (by decide)]; omega, _, rfl⟩
    · rw [ho] at hcI
      simp only [go_sem, Nat.reduceEqDiff, Nat.reduceAdd, Nat.reduceLT, Nat.reduceLeDiff, reduceIte, g2, g4, g7, g8, g9, dec_lt hlt, Gs_idx hk, GEta, NEta, get_last, set_last, WB52, WVH_eq (isRight_ok _), true_and, hcI, wrap_n1 k (by omega)]
      refine Nx_of (k + 1, r, n) (by simp) ?_
      simp only [go_sem, Nat.reduceEqDiff, Nat.reduceAdd, Nat.reduceLT, Nat.reduceLeDiff, reduceIte, g2, g4, g7, g8]
      exact ⟨trivial, trivial, trivial, trivial, trivial, hd2, by rw [← ha]; unfold wrA; rw [wrN_cons, ho, if_pos rfl]; omega, _, rfl⟩
theorem cW_app {x : Ln} (hx : NV x) (gs : List Gg) (hl : gs.length < 1073741824) (hg : ∀ g ∈ gs, 0 ≤ g.hr ∧ g.hr ≤ 80) (st : St) (K : AV → St → Prop) : @WAH ft (cW gs) [encN x] st ⟨K⟩ = K (I64 (wrN gs x : Nat)) st := by
  rw [cW, WAH_fn]
  simp only [List.nil_append, List.cons_append]
  simp only [go_sem, Nat.reduceEqDiff, Nat.reduceAdd, Nat.reduceLT, Nat.reduceLeDiff, reduceIte, WB72, WVH_eq (cW_run hx gs hl hg), true_and]
theorem cW_appz {x : Ln} (hx : NV x) (gs : List Gg) (hl : gs.length < 1073741824) (hg : ∀ g ∈ gs, 0 ≤ g.hr ∧ g.hr ≤ 80) (st : St) (K : AV → St → Prop) : @WZH ft (cW gs) [encN x] st ⟨K⟩ = K (I64 (wrN gs x : Nat)) st := by
  rw [cW, WZH_fn]
  simp only [List.nil_append, List.cons_append]
  simp only [go_sem, Nat.reduceEqDiff, Nat.reduceAdd, Nat.reduceLT, Nat.reduceLeDiff, reduceIte, WFH_eq ft72, WVH_eq (cW_run hx gs hl hg), true_and]
/-- Up to which hour a line keeps the norm. -/
def lkF (l : Lm) (x : Ln) : Nat → Int → Int → Int
  | 0, last, _ => last
  | n + 1, last, h => if inS l.no (lit x h) = true then lkF l x n h (h + 1) else last
def lastK (l : Lm) (h : Int) (x : Ln) : Int := lkF l x (l.ra + 1 - h).toNat (-1) h
theorem cK_run {l : Lm} (hr : l.ra ≤ 40) {x : Ln} (hx : NV x) {h : Int} (h0 : 0 ≤ h) (h1 : h ≤ 40) : RV ft 82 [encN x, .pv (I64 h) 0, .pv (encL l) 0] (I64 (lastK l h x)) := by
  refine RV_of ft82 rfl ?_
  simp only [c82, r82]
  simp only [go_sem, Nat.reduceEqDiff, Nat.reduceAdd, Nat.reduceLT, Nat.reduceLeDiff, reduceIte]
  refine WL_inv (α := Nat × Int × Int) (fun q e mm => e 2 = .pv (encL l) 0 ∧ e 3 = .ptr 0 0 0 ∧ e 5 = I64 q.2.1 ∧ e 6 = I64 q.2.2 ∧ q.1 = (l.ra + 1 - q.2.2).toNat ∧ 0 ≤ q.2.2 ∧ q.2.2 ≤ 41 ∧ lkF l x q.1 q.2.1 q.2.2 = lastK l h x ∧ ∃ bl, mm = ⟨.live [encN x] 2 :: bl, []⟩) (fun q => q.1) ((l.ra + 1 - h).toNat, -1, h) ?_ ?_
  · simp only [go_sem, Nat.reduceEqDiff, Nat.reduceAdd, Nat.reduceLT, Nat.reduceLeDiff, reduceIte]
    exact ⟨trivial, trivial, trivial, trivial, trivial, h0, by omega, rfl, _, rfl⟩
  rintro ⟨n, last, k⟩ e m ⟨g2, g3, g5, g6, hn, k0, k1, ha, bl, rfl⟩
  dsimp only at g5 g6 hn k0 k1 ha
  cases hk : decide (k ≤ l.ra)
  · simp only [go_sem, Nat.reduceEqDiff, Nat.reduceAdd, Nat.reduceLT, Nat.reduceLeDiff, reduceIte, g2, g3, g5, g6, hk]
    have : n = 0 := by have := of_decide_eq_false hk; omega
    subst this
    rw [← ha]; rfl
  · have hk' := of_decide_eq_true hk
    obtain ⟨n', rfl⟩ : ∃ n', n = n' + 1 := ⟨n - 1, by omega⟩
    have hcI := @cI_app x hx l.no k k0 (by omega)
    cases hi : inS l.no (lit x k)
    · rw [hi] at hcI
      simp only [go_sem, Nat.reduceEqDiff, Nat.reduceAdd, Nat.reduceLT, Nat.reduceLeDiff, reduceIte, g2, g3, g5, g6, hk, WB59, WVH_eq (isWithinAt_ok _ _), true_and, hcI, NEta]
      rw [← ha]; simp [lkF, hi]
    · rw [hi] at hcI
      simp only [go_sem, Nat.reduceEqDiff, Nat.reduceAdd, Nat.reduceLT, Nat.reduceLeDiff, reduceIte, g2, g3, g5, g6, hk, WB59, WVH_eq (isWithinAt_ok _ _), true_and, hcI, NEta, wrap_i1 k (by omega) (by omega)]
      refine Nx_of (n', k, k + 1) (by simp) ?_
      simp only [go_sem, Nat.reduceEqDiff, Nat.reduceAdd, Nat.reduceLT, Nat.reduceLeDiff, reduceIte, g2, g3]
      exact ⟨trivial, trivial, trivial, trivial, by omega, by omega, by omega, by rw [← ha]; simp [lkF, hi], _, rfl⟩
theorem cK_app {l : Lm} (hr : l.ra ≤ 40) {x : Ln} (hx : NV x) {h : Int} (h0 : 0 ≤ h) (h1 : h ≤ 40) (st : St) (K : AV → St → Prop) : @WAH ft (cK l h) [encN x] st ⟨K⟩ = K (I64 (lastK l h x)) st := by
  rw [cK, WAH_fn]
  simp only [List.nil_append, List.cons_append]
  simp only [go_sem, Nat.reduceEqDiff, Nat.reduceAdd, Nat.reduceLT, Nat.reduceLeDiff, reduceIte, WB82, WVH_eq (cK_run hr hx h0 h1), true_and]
end Go.Ab.T
end
