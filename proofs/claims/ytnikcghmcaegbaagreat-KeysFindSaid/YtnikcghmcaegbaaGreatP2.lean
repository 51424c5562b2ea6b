/-
 A part of the proofs over this seat.
 (The texts KxK24 KxK25 KxK26 KxK27 KxK28 KxK29 KxK30 KxK31 KxK32 KxK33 KxK34 KxK35 KxK36 KxK37 KxK38 KxK39 KxK40 KxK41 KxK42 KxK43 KxK44 KxK45 KxK46 KxK47 KxK48 KxK49 KxK53 KxK54 KxK57 KxK58 KxK60 KxK61 KxK62 KxK63 KxK64, one behind the other.)
-/
import Derived.Test.YtnikcghmcaegbaaGreatP1
set_option linter.unusedSimpArgs false
set_option linter.unusedVariables false
set_option linter.unusedSectionVars false
set_option maxRecDepth 20000
set_option maxHeartbeats 8000000
namespace Go.Ab.T
def NF : List Sp → Prop
 | [] => True
 | s :: r => s.lo ≤ s.hi ∧ (∀ t ∈ r, s.hi + 1 < t.lo) ∧ NF r
def inSp (l : List Sp) (n : Int) : Prop := ∃ s ∈ l, s.lo ≤ n ∧ n ≤ s.hi
theorem inSp_cons (s : Sp) (r : List Sp) (n : Int) : inSp (s :: r) n ↔ (s.lo ≤ n ∧ n ≤ s.hi) ∨ inSp r n := by
 unfold inSp; simp
theorem NF_unique : ∀ (a b : List Sp), NF a → NF b → (∀ n, inSp a n ↔ inSp b n) → a = b
 | [], [], _, _, _ => rfl
 | [], t :: b, _, hb, h => by
  obtain ⟨s, hs, _⟩ := (h t.lo).2 ⟨t, by simp, Int.le_refl _, hb.1⟩
  cases hs
 | s :: a, [], ha, _, h => by
  obtain ⟨t, ht, _⟩ := (h s.lo).1 ⟨s, by simp, Int.le_refl _, ha.1⟩
  cases ht
 | s :: a, t :: b, ha, hb, h => by
  have far : ∀ {u : Sp} {r : List Sp} {n : Int}, (∀ t ∈ r, u.hi + 1 < t.lo) → inSp r n → u.hi + 1 < n := by
   rintro u r n h1 ⟨v, hv, h2, h3⟩
   have := h1 v hv; omega
  have hlo : s.lo = t.lo := by
   have h1 := (inSp_cons t b s.lo).1 ((h s.lo).1 ⟨s, by simp, Int.le_refl _, ha.1⟩)
   have h2 := (inSp_cons s a t.lo).1 ((h t.lo).2 ⟨t, by simp, Int.le_refl _, hb.1⟩)
   have h3 := hb.1
   have h4 := ha.1
   rcases h1 with h1 | h1
   ·rcases h2 with h2 | h2
    ·omega
    ·have := far ha.2.1 h2; omega
   ·have h5 := far hb.2.1 h1
    rcases h2 with h2 | h2
    ·omega
    ·have := far ha.2.1 h2; omega
  have hhi : s.hi = t.hi := by
   rcases Int.lt_trichotomy s.hi t.hi with hlt | he | hlt
   ·exfalso
    have h1 := (inSp_cons s a (s.hi + 1)).1 ((h (s.hi + 1)).2 ⟨t, by simp, by have := ha.1; omega, by omega⟩)
    rcases h1 with h1 | h1
    ·omega
    ·have := far ha.2.1 h1; omega
   ·exact he
   ·exfalso
    have h1 := (inSp_cons t b (t.hi + 1)).1 ((h (t.hi + 1)).1 ⟨s, by simp, by have := hb.1; omega, by omega⟩)
    rcases h1 with h1 | h1
    ·omega
    ·have := far hb.2.1 h1; omega
  have hst : s = t := by cases s; cases t; simp at hlo hhi; rw [hlo, hhi]
  subst hst
  rw [NF_unique a b ha.2.2 hb.2.2 fun n => ?_]
  constructor
  ·intro hn
   have h1 := far ha.2.1 hn
   rcases (inSp_cons s b n).1 ((h n).1 ((inSp_cons s a n).2 (.inr hn))) with h2 | h2
   ·omega
   ·exact h2
  ·intro hn
   have h1 := far hb.2.1 hn
   rcases (inSp_cons s a n).1 ((h n).2 ((inSp_cons s b n).2 (.inr hn))) with h2 | h2
   ·omega
   ·exact h2
theorem NF_snoc : ∀ (a : List Sp) (s : Sp), NF (a ++ [s]) ↔ NF a ∧ s.lo ≤ s.hi ∧ ∀ t ∈ a, t.hi + 1 < s.lo
 | [], s => by simp [NF]
 | x :: a, s => by
  simp only [List.cons_append, NF, NF_snoc a s, List.mem_append, List.mem_cons, List.mem_singleton, List.mem_nil_iff, or_false]
  constructor
  ·rintro ⟨h1, h2, h3, h4, h5⟩
   refine ⟨⟨h1, fun t ht => h2 t (.inl ht), h3⟩, h4, fun t ht => ?_⟩
   rcases ht with rfl | ht
   ·exact h2 s (.inr rfl)
   ·exact h5 t ht
  ·rintro ⟨⟨h1, h2, h3⟩, h4, h5⟩
   refine ⟨h1, fun t ht => ?_, h3, h4, fun t ht => h5 t (.inr ht)⟩
   rcases ht with ht | rfl
   ·exact h2 t ht
   ·exact h5 x (.inl rfl)
theorem inSp_snoc (a : List Sp) (s : Sp) (n : Int) : inSp (a ++ [s]) n ↔ inSp a n ∨ (s.lo ≤ n ∧ n ≤ s.hi) := by
 unfold inSp
 simp only [List.mem_append, List.mem_singleton]
 constructor
 ·rintro ⟨t, ht | rfl, h⟩
  ·exact .inl ⟨t, ht, h⟩
  ·exact .inr h
 ·rintro (⟨t, ht, h⟩ | h)
  ·exact ⟨t, .inl ht, h⟩
  ·exact ⟨s, .inr rfl, h⟩
theorem snoc_of {α : Type} : ∀ (l : List α), l = [] ∨ ∃ a x, l = a ++ [x]
 | [] => .inl rfl
 | x :: r => .inr (by
  rcases snoc_of r with rfl | ⟨a, y, rfl⟩
  ·exact ⟨[], x, rfl⟩
  ·exact ⟨x :: a, y, rfl⟩)
theorem stepS_spec {acc : List Sp} {k : Ky} (h : NF acc) (hk : k.fr ≤ k.to) (hlo : ∀ s ∈ acc, s.lo ≤ k.fr) : NF (stepS acc k) ∧ (∀ s ∈ stepS acc k, s.lo ≤ k.fr) ∧ ∀ n, inSp (stepS acc k) n ↔ inSp acc n ∨ (k.fr ≤ n ∧ n ≤ k.to) := by
 rcases snoc_of acc with rfl | ⟨a, s, rfl⟩
 ·refine ⟨show NF [⟨k.fr, k.to⟩] from ⟨hk, fun t ht => (by cases ht), trivial⟩, fun s hs => ?_, fun n => ?_⟩
  ·simp [stepS] at hs; subst hs; exact Int.le_refl _
  ·show inSp [⟨k.fr, k.to⟩] n ↔ _
   simp [inSp]
 ·rw [stepS_last]
  obtain ⟨h1, h2, h3⟩ := (NF_snoc a s).1 h
  have hs := hlo s (by simp)
  by_cases hle : k.fr ≤ s.hi + 1
  ·rw [if_pos hle]
   refine ⟨(NF_snoc _ _).2 ⟨h1, by show s.lo ≤ max s.hi k.to; omega, h3⟩, fun t ht => ?_, fun n => ?_⟩
   ·rcases List.mem_append.1 ht with ht | ht
    ·exact hlo t (by simp [ht])
    ·obtain rfl := List.mem_singleton.1 ht; exact hs
   ·rw [inSp_snoc, inSp_snoc]
    show inSp a n ∨ (s.lo ≤ n ∧ n ≤ max s.hi k.to) ↔ _
    constructor
    ·rintro (h | h)
     ·exact .inl (.inl h)
     ·by_cases hn : n ≤ s.hi
      ·exact .inl (.inr ⟨h.1, hn⟩)
      ·exact .inr ⟨by omega, by omega⟩
    ·rintro ((h | h) | h)
     ·exact .inl h
     ·exact .inr ⟨h.1, by omega⟩
     ·exact .inr ⟨by omega, by omega⟩
  ·rw [if_neg hle]
   refine ⟨(NF_snoc _ _).2 ⟨h, hk, fun t ht => ?_⟩, fun t ht => ?_, fun n => inSp_snoc _ _ n⟩
   ·rcases List.mem_append.1 ht with ht | ht
    ·have := h3 t ht; show t.hi + 1 < k.fr; omega
    ·obtain rfl := List.mem_singleton.1 ht; show t.hi + 1 < k.fr; omega
   ·rcases List.mem_append.1 ht with ht | ht
    ·exact hlo t ht
    ·obtain rfl := List.mem_singleton.1 ht; exact Int.le_refl _
theorem foldS_spec : ∀ (l : List Ky) (acc : List Sp), NF acc → (∀ k ∈ l, k.fr ≤ k.to) → l.Pairwise (fun a b => a.fr ≤ b.fr) → (∀ s ∈ acc, ∀ k ∈ l, s.lo ≤ k.fr) →
  NF (l.foldl stepS acc) ∧ ∀ n, inSp (l.foldl stepS acc) n ↔ inSp acc n ∨ ∃ k ∈ l, k.fr ≤ n ∧ n ≤ k.to
 | [], acc, h, _, _, _ => ⟨h, fun n => by simp⟩
 | k :: l, acc, h, hB, hs, hlo => by
  obtain ⟨h1, h2, h3⟩ := stepS_spec h (hB k (by simp)) fun s hs' => hlo s hs' k (by simp)
  obtain ⟨hk, hl⟩ := List.pairwise_cons.1 hs
  obtain ⟨h4, h5⟩ := foldS_spec l (stepS acc k) h1 (fun x hx => hB x (by simp [hx])) hl fun s hs' x hx => by
   have a1 := h2 s hs'; have a2 := hk x hx; omega
  refine ⟨h4, fun n => ?_⟩
  rw [List.foldl_cons, h5, h3]
  simp only [List.mem_cons, exists_eq_or_imp, or_assoc]
def spansOf (l : List Ky) : List Sp := (l.mergeSort fun a b => decide (a.fr ≤ b.fr)).foldl stepS []
theorem srt_spec (l : List Ky) : (l.mergeSort fun a b => decide (a.fr ≤ b.fr)).Perm l ∧ (l.mergeSort fun a b => decide (a.fr ≤ b.fr)).Pairwise fun a b => a.fr ≤ b.fr := by
 refine ⟨List.mergeSort_perm _ _, ?_⟩
 have := List.pairwise_mergeSort (le := fun a b : Ky => decide (a.fr ≤ b.fr)) (fun a b c h1 h2 => by simp at h1 h2 ⊢; omega) (fun a b => by simp; omega) l
 exact this.imp fun h => by simpa using h
theorem spansOf_spec {l : List Ky} (hB : ∀ k ∈ l, k.fr ≤ k.to) : NF (spansOf l) ∧ ∀ n, inSp (spansOf l) n ↔ ∃ k ∈ l, k.fr ≤ n ∧ n ≤ k.to := by
 obtain ⟨h1, h2⟩ := srt_spec l
 obtain ⟨h3, h4⟩ := foldS_spec _ [] trivial (fun k hk => hB k (h1.mem_iff.1 hk)) h2 fun s hs => by cases hs
 refine ⟨h3, fun n => (h4 n).trans ?_⟩
 have : ¬inSp [] n := fun ⟨s, hs, _⟩ => by cases hs
 simp only [this, false_or]
 exact exists_congr fun k => and_congr_left fun _ => h1.mem_iff
theorem spansOf_eq {l l' : List Ky} (hB : ∀ k ∈ l, k.fr ≤ k.to) (hp : l'.Perm l) (hs : l'.Pairwise fun a b => a.fr ≤ b.fr) : l'.foldl stepS [] = spansOf l := by
 obtain ⟨h1, h2⟩ := spansOf_spec hB
 obtain ⟨h3, h4⟩ := foldS_spec l' [] trivial (fun k hk => hB k (hp.mem_iff.1 hk)) hs fun s hs => by cases hs
 refine NF_unique _ _ h3 h1 fun n => (h4 n).trans ?_
 rw [h2]
 have : ¬inSp [] n := fun ⟨s, hs, _⟩ => by cases hs
 simp only [this, false_or]
 exact exists_congr fun k => and_congr_left fun _ => hp.mem_iff
def openP (p : Pl) : List Sp := if p.locked then spansOf p.opening else [⟨0, 9999⟩]
theorem openMinutesP_ok (p : Pl) (hl : p.opening.length < 1073741824) (hB : ∀ k ∈ p.opening, KyB k) : RV ft 112 [encP p] (encSs (openP p)) := by
 obtain ⟨l', ⟨h1, h2⟩, h3⟩ := sortedFunc_ok p.opening hl
 have := openMinutes_ok p l' (by rw [h1.length_eq]; exact hl) (fun k hk => hB k (h1.mem_iff.1 hk)) h3
 rw [spansOf_eq (fun k hk => (hB k hk).2.1) h1 h2] at this
 unfold openP
 split
 ·rename_i h; rw [if_pos h] at this; exact this
 ·rename_i h; rw [if_neg h] at this; exact this
def AccP (pre : List (Nat × Nat)) (T : Nat) (es : List AV) (v : AV) (toks : List (Nat × Nat)) : Prop :=
 (es = [] ∧ v = .sl [] .tight ∧ toks = pre) ∨ (es ≠ [] ∧ v = .sl es (.at pre.length) ∧ toks = pre ++ [(es.length, T)])
theorem AccP_nil (pre : List (Nat × Nat)) (T : Nat) : AccP pre T [] (.sl [] .tight) pre := Or.inl ⟨rfl, rfl, rfl⟩
theorem AccP.app {pre : List (Nat × Nat)} {T : Nat} {es : List AV} {v : AV} {toks : List (Nat × Nat)} (h : AccP pre T es v toks) {y : AV} {tk : Tk} {sz bytes : Nat} {blks : List Blk} {K : AV × Mem → Prop}
  (hs : ∀ e ∈ es, e.cells.length = sz) (hy : y.cells.length = sz) (hl : (es.length + 1) * (bytes + 1) ≤ limit)
  (hk : ∀ v' toks', AccP pre T (es ++ [y]) v' toks' → K (v', ⟨blks, toks'⟩)) : @OptH _ (appendAt ⟨blks, toks⟩ false v (.sl [y] tk) T sz bytes) ⟨K⟩ := by
 have h1 : hdSz [y] sz = true := by simp [hdSz, hy]
 have h2 : hdSz es sz = true := by
  cases es with
  | nil => rfl
  | cons e r => simp [hdSz, hs e (by simp)]
 rcases h with ⟨rfl, rfl, rfl⟩ | ⟨hne, rfl, rfl⟩
 ·simp only [appendAt, Mem.elems, h1, h2, OptH, List.length_cons, List.length_nil, List.nil_append, appTk]
  simp only [List.length_nil] at hl
  rw [if_neg (by simp), if_pos ⟨by simpa using hl, trivial⟩]
  exact hk _ _ (Or.inr ⟨by simp, rfl, by simp⟩)
 ·simp only [appendAt, Mem.elems, h1, h2, OptH, List.length_cons, List.length_nil, appTk]
  rw [if_neg (by simp), if_pos ⟨by simpa using hl, trivial⟩]
  have : es.length ≠ 0 := by simpa using hne
  have hg : (pre ++ [(es.length, T)])[pre.length]? = some (es.length, T) := by simp
  simp only [Bool.false_eq_true, if_false, Nat.zero_add, Nat.succ_ne_zero, hg]
  rw [if_pos ⟨trivial, this⟩]
  exact hk _ _ (Or.inr ⟨by simp, rfl, by simp⟩)
theorem AccP.snap {pre : List (Nat × Nat)} {T : Nat} {es : List AV} {v : AV} {toks : List (Nat × Nat)} (h : AccP pre T es v toks) (m : Mem) (k : Nat) : Ab.snap m (k + 1) v = .sl (es.map (Ab.snap m k)) .unk := by
 rcases h with ⟨rfl, rfl, _⟩ | ⟨_, rfl, _⟩ <;> rfl
theorem AccP.hot {pre : List (Nat × Nat)} {T : Nat} {es : List AV} {v : AV} {toks : List (Nat × Nat)} (h : AccP pre T es v toks) (k : Nat) : Ab.hot (k + 1) v = es.any (Ab.hot k) := by
 rcases h with ⟨rfl, rfl, _⟩ | ⟨_, rfl, _⟩ <;> rfl
theorem AccP.cells {pre : List (Nat × Nat)} {T : Nat} {es : List AV} {v : AV} {toks : List (Nat × Nat)} (h : AccP pre T es v toks) : v.cells = [v] ∧ v.solid = true ∧ v.isAgg = false := by
 rcases h with ⟨rfl, rfl, _⟩ | ⟨_, rfl, _⟩ <;> exact ⟨rfl, rfl, rfl⟩
theorem AccP.sl {pre : List (Nat × Nat)} {T : Nat} {es : List AV} {v : AV} {toks : List (Nat × Nat)} (h : AccP pre T es v toks) : ∃ tk, v = .sl es tk := by
 rcases h with ⟨rfl, rfl, _⟩ | ⟨_, rfl, _⟩ <;> exact ⟨_, rfl⟩
def lacks (as fs : List Fl) (id : Int) : Bool := !(fs.any fun x => decide ((findA id as).1 = x))
def missP (as : List Fl) (wanted : List Int) (fs : List Fl) : List Int := wanted.filter (lacks as fs)
theorem take_filter {α : Type} {l : List α} {k : Nat} {x : α} (h : l[k]? = some x) (p : α → Bool) : (l.take (k + 1)).filter p = (l.take k).filter p ++ (if p x then [x] else []) := by
 rw [List.take_add_one, h]; simp only [Option.toList_some, List.filter_append, List.filter_cons, List.filter_nil]
theorem missingP_ok (as : List Fl) (wanted : List Int) (fs : List Fl) (has : as.length < 1073741824) (hw : wanted.length < 1073741824) (hfs : fs.length < 1073741824) : RV ft 110 [encFs as, encI wanted, encFs fs] (encI (missP as wanted fs)) := by
 refine RV_of ft110 rfl ?_
 simp only [c110, r110]
 simp only [go_sem, Nat.reduceEqDiff, Nat.reduceAdd, Nat.reduceLT, Nat.reduceLeDiff, reduceIte]
 refine WL_inv (α := Nat) (fun k e mm => e 0 = encFs as ∧ e 2 = encFs fs ∧ e 12 = encI wanted ∧ e 13 = I64 wanted.length ∧ e 14 = I64 k ∧ k ≤ wanted.length ∧ AccP [] 3 (((wanted.take k).filter (lacks as fs)).map fun n => I64 n) (e 7) mm.toks) (fun k => wanted.length - k) 0 ?_ ?_
 ·simp only [go_sem, Nat.reduceEqDiff, Nat.reduceAdd, Nat.reduceLT, Nat.reduceLeDiff, reduceIte]
  exact ⟨trivial, trivial, trivial, trivial, rfl, Nat.zero_le _, AccP_nil [] 3⟩
 rintro k e ⟨bl, tk⟩ ⟨g0, g2, g12, g13, g14, hk, hA⟩
 dsimp only at hA
 by_cases hkl : k < wanted.length
 case pos =>
  obtain ⟨x, hx⟩ : ∃ x, wanted[k]? = some x := ⟨wanted[k], by simp [hkl]⟩
  have htf := take_filter hx (lacks as fs)
  have hfl : ((wanted.take k).filter (lacks as fs)).length ≤ k := Nat.le_trans (List.length_filter_le _ _) (by simp; omega)
  generalize hv : e 7 = v at hA
  cases hc : (fs.any fun y => decide ((findA x as).1 = y))
  ·have hlk : lacks as fs x = true := by simp [lacks, hc]
   simp only [go_sem, Nat.reduceEqDiff, Nat.reduceAdd, Nat.reduceLT, Nat.reduceLeDiff, reduceIte, g0, g2, g12, g13, g14, hv, dec_lt hkl, encI_idx hx, WB136, WVH_eq (findAsset_ok as x has), FlCells, FlEta, WB137, snapF, hotF, WVH_eq (ContainsA_ok fs (findA x as).1 hfs), hc, true_and]
   refine hA.app (fun a ha => by obtain ⟨n, _, rfl⟩ := List.mem_map.1 ha; rfl) rfl (by simp only [List.length_map, limit]; omega) fun v' toks' hA' => ?_
   simp only [go_sem, Nat.reduceEqDiff, Nat.reduceAdd, Nat.reduceLT, Nat.reduceLeDiff, reduceIte, g0, g2, g12, g13, g14, wrap_n1 k (by omega)]
   refine Nx_of (k + 1) (by first | omega | (dsimp only; omega)) ?_
   simp only [go_sem, Nat.reduceEqDiff, Nat.reduceAdd, Nat.reduceLT, Nat.reduceLeDiff, reduceIte, g0, g2, g12, g13]
   exact ⟨trivial, trivial, trivial, trivial, trivial, by omega, by rw [htf, hlk]; simpa using hA'⟩
  ·have hlk : lacks as fs x = false := by simp [lacks, hc]
   simp only [go_sem, Nat.reduceEqDiff, Nat.reduceAdd, Nat.reduceLT, Nat.reduceLeDiff, reduceIte, g0, g2, g12, g13, g14, hv, dec_lt hkl, encI_idx hx, WB136, WVH_eq (findAsset_ok as x has), FlCells, FlEta, WB137, snapF, hotF, WVH_eq (ContainsA_ok fs (findA x as).1 hfs), hc, true_and, wrap_n1 k (by omega)]
   refine Nx_of (k + 1) (by first | omega | (dsimp only; omega)) ?_
   simp only [go_sem, Nat.reduceEqDiff, Nat.reduceAdd, Nat.reduceLT, Nat.reduceLeDiff, reduceIte, g0, g2, g12, g13, hv]
   exact ⟨trivial, trivial, trivial, trivial, trivial, by omega, by rw [htf, hlk]; simpa using hA⟩
 obtain rfl : k = wanted.length := by omega
 simp only [go_sem, Nat.reduceEqDiff, Nat.reduceAdd, Nat.reduceLT, Nat.reduceLeDiff, reduceIte, g0, g2, g12, g13, g14, show decide ((wanted.length : Int) < (wanted.length : Int)) = false from decide_eq_false (by omega)]
 rw [hA.snap, List.take_length, List.map_map]
 rfl
def foreignP (devs : List Int) (k : Ky) : Int × Bool := findP (fun d => !(k.devs.any (· == d))) 0 devs
theorem notTrusted_ok (d : Int) (k : Ky) (hk : k.devs.length < 1073741824) : RV ft 117 [I64 d, .pv (encK k) 0] (.bool (!(k.devs.any (· == d)))) := by
 refine RV_of ft117 rfl ?_
 simp only [c117, r117]
 simp only [go_sem, Nat.reduceEqDiff, Nat.reduceAdd, Nat.reduceLT, Nat.reduceLeDiff, reduceIte, KyCells, WB111, WVH_eq (Contains_ok k.devs d hk), true_and]
theorem closTrust {k : Ky} (hk : k.devs.length < 1073741824) {d : Int} {e : Nat → AV} {m : Mem} (h : m.blks[1]? = some (.live [encK k] 5)) (K : AV → St → Prop) (hK : K (.bool (!(k.devs.any (· == d)))) ⟨e, m⟩) : @WAH ft (.fn 117 [] [.ptr 1 0 0]) [I64 d] ⟨e, m⟩ ⟨K⟩ := by
 rw [WAH_fn]
 simp only [List.nil_append, List.cons_append]
 rw [WB117]
 simp only [go_sem, Nat.reduceEqDiff, Nat.reduceAdd, Nat.reduceLT, Nat.reduceLeDiff, reduceIte, h, WVH_eq (notTrusted_ok d k hk), true_and]
 exact hK
theorem PlCells (p : Pl) : (encP p).cells = [I64 p.id, I64 p.film, I64 p.tongue, I64 p.subs, I64 p.mins, .bool p.locked, encI p.assets, encI p.devs, encI p.miss, encKs p.keys, encKs p.opening, encSs p.opn] := rfl
theorem PlEta (p : Pl) : AV.agg [I64 p.id, I64 p.film, I64 p.tongue, I64 p.subs, I64 p.mins, .bool p.locked, encI p.assets, encI p.devs, encI p.miss, encKs p.keys, encKs p.opening, encSs p.opn] = encP p := rfl
theorem snSs (m : Mem) (q : Nat) (l : List Sp) : snap m (q + 3) (encSs l) = encSs l := by
 unfold encSs; rw [snap_sl, List.map_map]; congr 1
theorem hotSs (q : Nat) (l : List Sp) : hot (q + 3) (encSs l) = false := by
 unfold encSs; rw [hot_sl, List.any_map]
 exact List.any_eq_false.2 fun k _ => by simp [encSp, hot]
theorem snP (m : Mem) (q : Nat) (p : Pl) : snap m (q + 5) (encP p) = encP p := by
 unfold encP; rw [snap_agg]
 simp only [List.map_cons, List.map_nil, snap_int, snap_bool, snI, snKs, snSs]
theorem hotP (q : Nat) (p : Pl) : hot (q + 5) (encP p) = false := by
 unfold encP; rw [hot_agg]
 simp only [List.any_cons, List.any_nil, hot_int, hot_bool, hotI, hotKs, hotSs, Bool.or_false, Bool.false_or]
theorem foreign_ok (p : Pl) (k : Ky) (hd : p.devs.length < 1073741824) (hk : k.devs.length < 1073741824) : RV ft 77 [encP p, encK k] (.tup [I64 (foreignP p.devs k).1, .bool (foreignP p.devs k).2]) := by
 refine RV_of ft77 rfl ?_
 simp only [c77, r77]
 simp only [go_sem, Nat.reduceEqDiff, Nat.reduceAdd, Nat.reduceLT, Nat.reduceLeDiff, reduceIte, PlCells, PlEta, KyCells, KyEta, WB116]
 refine first116_run (p := pAt (fun d => !(k.devs.any (· == d))) p.devs) (J := fun _ m => m.blks[1]? = some (.live [encK k] 5)) hd
  (fun j x e m K hx h hK => closTrust hk h K (by have := hK m h; rwa [pAt_some _ hx] at this)) _ rfl _ (fun j x m' hx hp hq h => ?_) fun m' hp h => ?_
 all_goals obtain ⟨bl', tk'⟩ := m'
 ·simp only [go_sem, Nat.reduceEqDiff, Nat.reduceAdd, Nat.reduceLT, Nat.reduceLeDiff, reduceIte]
  rw [show foreignP p.devs k = (x, true) from findP_yes hx hp hq]
 ·simp only [go_sem, Nat.reduceEqDiff, Nat.reduceAdd, Nat.reduceLT, Nat.reduceLeDiff, reduceIte]
  rw [show foreignP p.devs k = (0, false) from findP_no hp]
attribute [go_sem] snSs hotSs snP hotP
def keepK (l : Lb) (c : Cm) (k : Ky) : Bool := (k.comp == c.id) && !(l.recalled.any (· == k.id))
def opensK (s : Sv) (k : Ky) : Bool := !(foreignP s.devs k).2
def keysP (l : Lb) (c : Cm) : List Ky := l.keys.filter (keepK l c)
def opensP (l : Lb) (c : Cm) (s : Sv) : List Ky := (keysP l c).filter (opensK s)
def placeP (l : Lb) (c : Cm) (s : Sv) : Pl :=
 ⟨c.id, c.film, c.tongue, c.subs, c.mins, c.locked, c.assets, s.devs, missP l.assets c.assets s.files, keysP l c, opensP l c s, if c.locked then spansOf (opensP l c s) else [⟨0, 9999⟩]⟩
theorem sn_keys {pre : List (Nat × Nat)} {T : Nat} {ks : List Ky} {v : AV} {toks : List (Nat × Nat)} (h : AccP pre T (ks.map encK) v toks) (m : Mem) (q : Nat) : snap m (q + 4) v = encKs ks := by
 rw [h.snap, List.map_map]
 unfold encKs; congr 1
 exact List.map_congr_left fun k _ => snK m q k
theorem hot_keys {pre : List (Nat × Nat)} {T : Nat} {ks : List Ky} {v : AV} {toks : List (Nat × Nat)} (h : AccP pre T (ks.map encK) v toks) (q : Nat) : hot (q + 4) v = false := by
 rw [h.hot, List.any_map]
 exact List.any_eq_false.2 fun k _ => by simp [hotK]
theorem place_ok (l : Lb) (c : Cm) (s : Sv) (hB : LbB l) (hca : c.assets.length < 1073741824) (hsd : s.devs.length < 1073741824) (hsf : s.files.length < 1073741824) (hK : ∀ k ∈ l.keys, KyB k) : RV ft 71 [encL l, encC c, encV s] (encP (placeP l c s)) := by
 refine RV_of ft71 rfl ?_
 simp only [c71, r71]
 have hlk := hB.ks
 have fm := missingP_ok l.assets c.assets s.files hB.as hca hsf
 generalize hmi : missP l.assets c.assets s.files = mi at fm
 simp only [go_sem, Nat.reduceEqDiff, Nat.reduceAdd, Nat.reduceLT, Nat.reduceLeDiff, reduceIte, LbCells, CmCells, SvCells, CmEta, encI_cells, WB110, WVH_eq fm, true_and]
 refine WL_inv (α := Nat) (fun k e mm => e 3 = .ptr 0 0 0 ∧ e 4 = .ptr 1 0 0 ∧ e 6 = .ptr 3 0 0 ∧ e 7 = .ptr 4 0 0 ∧ e 27 = encYs l.keys ∧ e 28 = I64 l.keys.length ∧ e 29 = I64 k ∧ k ≤ l.keys.length ∧
  mm.blks[0]? = some (.live [encL l] 5) ∧ mm.blks[1]? = some (.live [encC c] 7) ∧ mm.blks[3]? = some (.live [.agg [I64 0, I64 0, I64 0, I64 0, I64 0, .bool false, .sl [] .tight, .sl [] .tight, .sl [] .tight, .sl [] .tight, .sl [] .tight, .sl [] .tight]] 12) ∧
  ∃ kv, mm.blks[4]? = some (.live [.agg [I64 c.id, I64 c.film, I64 c.tongue, I64 c.subs, I64 c.mins, .bool c.locked, encI c.assets, encI s.devs, encI mi, kv, .sl [] .tight, .sl [] .tight]] 12) ∧
   AccP [] 37 (((l.keys.take k).filter (keepK l c)).map encK) kv mm.toks) (fun k => l.keys.length - k) 0 ?_ ?_
 ·simp only [go_sem, Nat.reduceEqDiff, Nat.reduceAdd, Nat.reduceLT, Nat.reduceLeDiff, reduceIte]
  exact ⟨trivial, trivial, trivial, trivial, trivial, trivial, rfl, Nat.zero_le _, by first | trivial | rfl, by first | trivial | rfl, by first | trivial | rfl, .sl [] .tight, by first | trivial | rfl, AccP_nil [] 37⟩
 rintro k e ⟨bl, tk⟩ ⟨g3, g4, g6, g7, g27, g28, g29, hk, b0, b1, b3, kv, b4, hA⟩
 dsimp only at b0 b1 b3 b4 hA
 by_cases hkl : k < l.keys.length
 case pos =>
  obtain ⟨x, hx⟩ : ∃ x, l.keys[k]? = some x := ⟨l.keys[k], by simp [hkl]⟩
  have htf := take_filter hx (keepK l c)
  have hfl : ((l.keys.take k).filter (keepK l c)).length ≤ k := Nat.le_trans (List.length_filter_le _ _) (by simp; omega)
  have hb0 := get_app1 b0 (.live [encK x] 5)
  have hb1 := get_app1 b1 (.live [encK x] 5)
  have hb3 := get_app1 b3 (.live [encK x] 5)
  have hb4 := get_app1 b4 (.live [encK x] 5)
  have hl4 : 4 < (bl ++ [Blk.live [encK x] 5]).length := (List.getElem?_eq_some_iff.1 hb4).1
  have no : ∀ (h : keepK l c x = false), (((l.keys.take (k + 1)).filter (keepK l c)).map encK) = (((l.keys.take k).filter (keepK l c)).map encK) := fun h => by rw [htf, h]; simp
  have ha4 : (bl ++ [Blk.live [encK x] 5])[bl.length]? = some (.live [encK x] 5) := get_last _ _
  cases c1 : (x.comp == c.id)
  case false =>
   have hkp : keepK l c x = false := by simp [keepK, c1]
   simp only [go_sem, Nat.reduceEqDiff, Nat.reduceAdd, Nat.reduceLT, Nat.reduceLeDiff, reduceIte, g3, g4, g6, g7, g27, g28, g29, dec_lt hkl, encYs_idx hx, KyCells, KyEta, hb1, CmCells, c1, wrap_n1 k (by omega)]
   refine Nx_of (k + 1) (by first | omega | (dsimp only; omega)) ?_
   simp only [go_sem, Nat.reduceEqDiff, Nat.reduceAdd, Nat.reduceLT, Nat.reduceLeDiff, reduceIte, g3, g4, g6, g7, g27, g28]
   exact ⟨trivial, trivial, trivial, trivial, trivial, trivial, trivial, by omega, hb0, hb1, hb3, kv, hb4, by rw [no hkp]; exact hA⟩
  cases c2 : (l.recalled.any (· == x.id))
  case true =>
   have hkp : keepK l c x = false := by simp [keepK, c1, c2]
   simp only [go_sem, Nat.reduceEqDiff, Nat.reduceAdd, Nat.reduceLT, Nat.reduceLeDiff, reduceIte, g3, g4, g6, g7, g27, g28, g29, dec_lt hkl, encYs_idx hx, KyCells, KyEta, hb1, hb0, CmCells, LbCells, c1, WB111, WVH_eq (Contains_ok l.recalled x.id hB.rs), c2, true_and, wrap_n1 k (by omega)]
   refine Nx_of (k + 1) (by first | omega | (dsimp only; omega)) ?_
   simp only [go_sem, Nat.reduceEqDiff, Nat.reduceAdd, Nat.reduceLT, Nat.reduceLeDiff, reduceIte, g3, g4, g6, g7, g27, g28]
   exact ⟨trivial, trivial, trivial, trivial, trivial, trivial, trivial, by omega, hb0, hb1, hb3, kv, hb4, by rw [no hkp]; exact hA⟩
  have hkp : keepK l c x = true := by simp [keepK, c1, c2]
  simp only [go_sem, Nat.reduceEqDiff, Nat.reduceAdd, Nat.reduceLT, Nat.reduceLeDiff, reduceIte, g3, g4, g6, g7, g27, g28, g29, dec_lt hkl, encYs_idx hx, KyCells, KyEta, hb1, hb0, hb4, CmCells, LbCells, c1, WB111, WVH_eq (Contains_ok l.recalled x.id hB.rs), c2, true_and, ha4]
  refine hA.app (fun a ha => by obtain ⟨n, _, rfl⟩ := List.mem_map.1 ha; rfl) rfl (by simp only [List.length_map, limit]; omega) fun v' toks' hA' => ?_
  obtain ⟨vc, vs, _⟩ := hA'.cells
  simp only [go_sem, Nat.reduceEqDiff, Nat.reduceAdd, Nat.reduceLT, Nat.reduceLeDiff, reduceIte, g3, g4, g6, g7, g27, g28, g29, hb4, vc, vs, wrap_n1 k (by omega)]
  refine Nx_of (k + 1) (by first | omega | (dsimp only; omega)) ?_
  simp only [go_sem, Nat.reduceEqDiff, Nat.reduceAdd, Nat.reduceLT, Nat.reduceLeDiff, reduceIte, g3, g4, g6, g7, g27, g28]
  refine ⟨trivial, trivial, trivial, trivial, trivial, trivial, trivial, by omega, ?_, ?_, ?_, v', ?_, by rw [htf, hkp]; simpa using hA'⟩
  ·rw [List.getElem?_set_ne (by omega)]; exact hb0
  ·rw [List.getElem?_set_ne (by omega)]; exact hb1
  ·rw [List.getElem?_set_ne (by omega)]; exact hb3
  ·rw [List.getElem?_set_self hl4]
 obtain rfl : k = l.keys.length := by omega
 obtain ⟨t0, hkv⟩ := hA.sl
 have hK2 : ∀ k ∈ opensP l c s, KyB k := fun k hk => hK k (List.mem_filter.1 (List.mem_filter.1 hk).1).1
 have hkslen : (keysP l c).length ≤ l.keys.length := List.length_filter_le _ _
 rw [List.take_length] at hA hkv
 have hA1 := hA
 generalize hks : l.keys.filter (keepK l c) = ks at hA hkv
 have hks' : keysP l c = ks := hks
 have hksl : ks.length ≤ l.keys.length := by rw [← hks']; exact hkslen
 have hksk : ∀ k ∈ ks, k.devs.length < 1073741824 := fun k hk => hB.kd k (by rw [← hks] at hk; exact (List.mem_filter.1 hk).1)
 have hlen : lenAt ⟨bl, tk⟩ kv = some (I64 (ks.length : Int)) := by rw [hkv]; simp [lenAt]
 simp only [go_sem, Nat.reduceEqDiff, Nat.reduceAdd, Nat.reduceLT, Nat.reduceLeDiff, reduceIte, g3, g4, g6, g7, g27, g28, g29, show decide ((l.keys.length : Int) < (l.keys.length : Int)) = false from decide_eq_false (by omega), b4, hlen]
 have hidx : ∀ {k : Nat} {x : Ky}, ks[k]? = some x → ∀ m, idxAt m kv (I64 (k : Int)) 5 = some (.pv (encK x) 0) := fun {k x} h m => by
  rw [hkv, idxAt_sl, if_pos (by omega), Int.toNat_natCast, K_get, h]; rfl
 have kvc := hA.cells.1
 have kvs := hA.cells.2.1
 refine WL_inv (α := Nat) (fun k e mm => e 6 = .ptr 3 0 0 ∧ e 7 = .ptr 4 0 0 ∧ e 54 = kv ∧ e 55 = I64 ks.length ∧ e 56 = I64 k ∧ k ≤ ks.length ∧
  mm.blks[3]? = some (.live [.agg [I64 0, I64 0, I64 0, I64 0, I64 0, .bool false, .sl [] .tight, .sl [] .tight, .sl [] .tight, .sl [] .tight, .sl [] .tight, .sl [] .tight]] 12) ∧
  ∃ ov, mm.blks[4]? = some (.live [.agg [I64 c.id, I64 c.film, I64 c.tongue, I64 c.subs, I64 c.mins, .bool c.locked, encI c.assets, encI s.devs, encI mi, kv, ov, .sl [] .tight]] 12) ∧
   AccP tk 37 (((ks.take k).filter (opensK s)).map encK) ov mm.toks) (fun k => ks.length - k) 0 ?_ ?_
 ·simp only [go_sem, Nat.reduceEqDiff, Nat.reduceAdd, Nat.reduceLT, Nat.reduceLeDiff, reduceIte, g6, g7]
  exact ⟨trivial, trivial, trivial, trivial, rfl, Nat.zero_le _, b3, .sl [] .tight, b4, AccP_nil tk 37⟩
 clear g3 g4 g6 g7 g27 g28 g29 b0 b1 b3 b4 e hlen bl
 rintro k e ⟨bl, tk2⟩ ⟨g6, g7, g54, g55, g56, hk, b3, ov, b4, hO⟩
 dsimp only at b3 b4 hO
 by_cases hkl : k < ks.length
 case pos =>
  obtain ⟨x, hx⟩ : ∃ x, ks[k]? = some x := ⟨ks[k], by simp [hkl]⟩
  have hxm : x ∈ ks := List.mem_of_getElem? hx
  have htf := take_filter hx (opensK s)
  have hfl : ((ks.take k).filter (opensK s)).length ≤ k := Nat.le_trans (List.length_filter_le _ _) (by simp; omega)
  have hb3 := get_app1 b3 (.live [encK x] 5)
  have hb4 := get_app1 b4 (.live [encK x] 5)
  have hl4 : 4 < (bl ++ [Blk.live [encK x] 5]).length := (List.getElem?_eq_some_iff.1 hb4).1
  have ha4 : (bl ++ [Blk.live [encK x] 5])[bl.length]? = some (.live [encK x] 5) := get_last _ _
  have hfor : RV ft 77 [.agg [I64 c.id, I64 c.film, I64 c.tongue, I64 c.subs, I64 c.mins, .bool c.locked, encI c.assets, encI s.devs, encI mi, encKs ks, encKs ((ks.take k).filter (opensK s)), .sl [] .unk], encK x] (.tup [I64 (foreignP s.devs x).1, .bool (foreignP s.devs x).2]) :=
   foreign_ok ⟨c.id, c.film, c.tongue, c.subs, c.mins, c.locked, c.assets, s.devs, mi, ks, (ks.take k).filter (opensK s), []⟩ x hsd (hksk x hxm)
  obtain ⟨oc, os, _⟩ := hO.cells
  have sk : ∀ (m : Mem) (q : Nat), snap m (q + 4) kv = encKs ks := fun m q => sn_keys hA m q
  have so : ∀ (m : Mem) (q : Nat), snap m (q + 4) ov = encKs ((ks.take k).filter (opensK s)) := fun m q => sn_keys hO m q
  have hk0 : ∀ q, hot (q + 4) kv = false := fun q => hot_keys hA q
  have ho0 : ∀ q, hot (q + 4) ov = false := fun q => hot_keys hO q
  cases c1 : (foreignP s.devs x).2
  case true =>
   have hkp : opensK s x = false := by simp [opensK, c1]
   simp only [go_sem, Nat.reduceEqDiff, Nat.reduceAdd, Nat.reduceLT, Nat.reduceLeDiff, reduceIte, g6, g7, g54, g55, g56, dec_lt hkl, hidx hx, KyCells, KyEta, hb4, ha4, WB77, sk, so, hk0, ho0, WVH_eq hfor, c1, true_and, wrap_n1 k (by omega)]
   refine Nx_of (k + 1) (by first | omega | (dsimp only; omega)) ?_
   simp only [go_sem, Nat.reduceEqDiff, Nat.reduceAdd, Nat.reduceLT, Nat.reduceLeDiff, reduceIte, g6, g7, g54, g55]
   exact ⟨trivial, trivial, trivial, trivial, trivial, by omega, hb3, ov, hb4, by rw [htf, hkp]; simpa using hO⟩
  have hkp : opensK s x = true := by simp [opensK, c1]
  simp only [go_sem, Nat.reduceEqDiff, Nat.reduceAdd, Nat.reduceLT, Nat.reduceLeDiff, reduceIte, g6, g7, g54, g55, g56, dec_lt hkl, hidx hx, KyCells, KyEta, hb4, ha4, WB77, sk, so, hk0, ho0, WVH_eq hfor, c1, true_and]
  refine hO.app (fun a ha => by obtain ⟨n, _, rfl⟩ := List.mem_map.1 ha; rfl) rfl (by simp only [List.length_map, limit]; omega) fun v' toks' hO' => ?_
  obtain ⟨vc, vs, _⟩ := hO'.cells
  simp only [go_sem, Nat.reduceEqDiff, Nat.reduceAdd, Nat.reduceLT, Nat.reduceLeDiff, reduceIte, g6, g7, g54, g55, g56, hb4, vc, vs, wrap_n1 k (by omega)]
  refine Nx_of (k + 1) (by first | omega | (dsimp only; omega)) ?_
  simp only [go_sem, Nat.reduceEqDiff, Nat.reduceAdd, Nat.reduceLT, Nat.reduceLeDiff, reduceIte, g6, g7, g54, g55]
  refine ⟨trivial, trivial, trivial, trivial, trivial, by omega, ?_, v', ?_, by rw [htf, hkp]; simpa using hO'⟩
  ·rw [List.getElem?_set_ne (by omega)]; exact hb3
  ·rw [List.getElem?_set_self hl4]
 obtain rfl : k = ks.length := by omega
 rw [List.take_length] at hO
 have hop : ks.filter (opensK s) = opensP l c s := by rw [← hks']; rfl
 rw [hop] at hO
 obtain ⟨oc, os, _⟩ := hO.cells
 have sk : ∀ (m : Mem) (q : Nat), snap m (q + 4) kv = encKs ks := fun m q => sn_keys hA m q
 have so : ∀ (m : Mem) (q : Nat), snap m (q + 4) ov = encKs (opensP l c s) := fun m q => sn_keys hO m q
 have hk0 : ∀ q, hot (q + 4) kv = false := fun q => hot_keys hA q
 have ho0 : ∀ q, hot (q + 4) ov = false := fun q => hot_keys hO q
 have hfin : RV ft 112 [.agg [I64 c.id, I64 c.film, I64 c.tongue, I64 c.subs, I64 c.mins, .bool c.locked, encI c.assets, encI s.devs, encI mi, encKs ks, encKs (opensP l c s), .sl [] .unk]] (encSs (if c.locked then spansOf (opensP l c s) else [⟨0, 9999⟩])) :=
  openMinutesP_ok ⟨c.id, c.film, c.tongue, c.subs, c.mins, c.locked, c.assets, s.devs, mi, ks, opensP l c s, []⟩ (by have : (opensP l c s).length ≤ (keysP l c).length := List.length_filter_le _ _; show (opensP l c s).length < _; omega) hK2
 have hl4 : 4 < bl.length := (List.getElem?_eq_some_iff.1 b4).1
 have hb4' : ∀ b, (bl.set 4 b)[4]? = some b := fun b => List.getElem?_set_self hl4
 have hb3' : ∀ b, (bl.set 4 b)[3]? = some (.live [.agg [I64 0, I64 0, I64 0, I64 0, I64 0, .bool false, .sl [] .tight, .sl [] .tight, .sl [] .tight, .sl [] .tight, .sl [] .tight, .sl [] .tight]] 12) := fun b => by
  rw [List.getElem?_set_ne (by omega)]; exact b3
 have hb5 : ∀ b b', ((bl.set 4 b).set 3 b')[3]? = some b' := fun b b' => List.getElem?_set_self (by simp; omega)
 have ssc : ∀ l : List Sp, (encSs l).cells = [encSs l] := fun _ => rfl
 simp only [go_sem, Nat.reduceEqDiff, Nat.reduceAdd, Nat.reduceLT, Nat.reduceLeDiff, reduceIte, g6, g7, g54, g55, g56, show decide ((ks.length : Int) < (ks.length : Int)) = false from decide_eq_false (by omega), b4, WB112, sk, so, hk0, ho0, WVH_eq hfin, true_and, ssc, hb4', hb3', hb5, oc, os, kvc, kvs]
 rw [← hmi, ← hks']
 rfl
def findS (fr : Int) (l : List Sp) : Sp × Bool := findP (fun s => inR fr s.lo s.hi) ⟨0, 0⟩ l
def shutP (p : Pl) (fr : Int) : Int := if (findS fr p.opn).2 then (findS fr p.opn).1.hi + 1 else fr
theorem SpB_find {l : List Sp} {fr : Int} (h : ∀ s ∈ l, SpB s) : SpB (findS fr l).1 := by
 unfold findS
 induction l with
 | nil => exact ⟨Int.le_refl _, show (0 : Int) ≤ 9999 by decide⟩
 | cons s r ih =>
  unfold findP
  split
  ·exact h s (by simp)
  ·exact ih fun t ht => h t (by simp [ht])
theorem inSpan_ok (x : Sp) (fr : Int) : RV ft 118 [encSp x, .pv (I64 fr) 0] (.bool (inR fr x.lo x.hi)) := by
 refine RV_of ft118 rfl ?_
 simp only [c118, r118]
 simp only [go_sem, Nat.reduceEqDiff, Nat.reduceAdd, Nat.reduceLT, Nat.reduceLeDiff, reduceIte, SpCells, WB107, WVH_eq (isWithin_ok fr x.lo x.hi), true_and]
theorem closSpan {fr : Int} {x : Sp} {e : Nat → AV} {m : Mem} (h : m.blks[1]? = some (.live [I64 fr] 1)) (K : AV → St → Prop) (hK : K (.bool (inR fr x.lo x.hi)) ⟨e, m⟩) : @WAH ft (.fn 118 [] [.ptr 1 0 0]) [encSp x] ⟨e, m⟩ ⟨K⟩ := by
 rw [WAH_fn]
 simp only [List.nil_append, List.cons_append]
 rw [WB118]
 have s1 : ∀ (m : Mem) (q : Nat), snap m (q + 2) (encSp x) = encSp x := fun _ _ => rfl
 have s2 : ∀ (q : Nat), hot (q + 2) (encSp x) = false := fun _ => rfl
 simp only [go_sem, Nat.reduceEqDiff, Nat.reduceAdd, Nat.reduceLT, Nat.reduceLeDiff, reduceIte, s1, s2, h, WVH_eq (inSpan_ok x fr), true_and]
 exact hK
theorem shut_ok (p : Pl) (fr : Int) (hl : p.opn.length < 1073741824) (hS : ∀ s ∈ p.opn, SpB s) : RV ft 79 [encP p, I64 fr] (I64 (shutP p fr)) := by
 refine RV_of ft79 rfl ?_
 simp only [c79, r79]
 simp only [go_sem, Nat.reduceEqDiff, Nat.reduceAdd, Nat.reduceLT, Nat.reduceLeDiff, reduceIte, PlCells, PlEta, WB59]
 have hsb := SpB_find (fr := fr) hS
 refine first59_run (p := pAt (fun s => inR fr s.lo s.hi) p.opn) (J := fun k m => m.blks[1]? = some (.live [I64 fr] 1)) (n0 := 2) hl (fun k bl tk b h => by exact get_app1 h b)
  (fun k bl tk i b hi h => by show (bl.set i b)[1]? = _; rw [List.getElem?_set_ne (by omega)]; exact h)
  (fun k x e m K hx hn h hK => closSpan h K (by have := hK m h (Frm.refl _ _); rwa [pAt_some _ hx] at this)) _ rfl rfl _ (fun k x m' hx hp hq h hn => ?_) fun m' hp h hn => ?_
 all_goals obtain ⟨bl', tk'⟩ := m'
 ·have hf : findS fr p.opn = (x, true) := findP_yes hx hp hq
  rw [hf] at hsb
  have hw : IntKind.i64.wrap (x.hi + 1) = x.hi + 1 := wrap_i64 _ (by have := hsb.1; show _ ≤ x.hi + 1; have : 0 ≤ x.hi := hsb.1; omega) (by have : x.hi ≤ 9999 := hsb.2; omega)
  simp only [go_sem, Nat.reduceEqDiff, Nat.reduceAdd, Nat.reduceLT, Nat.reduceLeDiff, reduceIte, SpCells, SpEta, hw]
  unfold shutP; rw [hf]; rfl
 ·have hf : findS fr p.opn = (⟨0, 0⟩, false) := findP_no hp
  dsimp only at h
  have h1 := get_app1 h (.live [.agg [I64 0, I64 0]] 2)
  simp only [go_sem, Nat.reduceEqDiff, Nat.reduceAdd, Nat.reduceLT, Nat.reduceLeDiff, reduceIte, h1]
  unfold shutP; rw [hf]; rfl
structure PlB (p : Pl) : Prop where
 ol : p.opn.length < 1073741824
 os : ∀ s ∈ p.opn, SpB s
 ob : ∀ s ∈ p.opn, 0 ≤ s.lo ∧ s.lo ≤ 9999
 m0 : 1 ≤ p.mins
 m1 : p.mins ≤ 400
 kl : p.keys.length < 1073741824
 gl : p.opening.length < 1073741824
 kd : DvB p.keys
 dl : p.devs.length < 1073741824
 gb : ∀ k ∈ p.opening, KyB k
 ml : p.miss.length < 1073741824
def Mn (n : Int) : Prop := -100000 ≤ n ∧ n ≤ 100000
def canP (p : Pl) (fr : Int) : Bool := ((p.miss.length : Int) == 0) && decide (fr + p.mins ≤ shutP p fr)
theorem canPlay_ok (p : Pl) (fr : Int) (hB : PlB p) (hf : Mn fr) : RV ft 58 [encP p, I64 fr] (.bool (canP p fr)) := by
 refine RV_of ft58 rfl ?_
 simp only [c58, r58]
 unfold canP
 have hw : IntKind.i64.wrap (fr + p.mins) = fr + p.mins := wrap_i64 _ (by have := hf.1; have := hB.m0; omega) (by have := hf.2; have := hB.m1; omega)
 cases h1 : ((p.miss.length : Int) == 0)
 case false => simp only [go_sem, Nat.reduceEqDiff, Nat.reduceAdd, Nat.reduceLT, Nat.reduceLeDiff, reduceIte, PlCells, PlEta, h1]
 simp only [go_sem, Nat.reduceEqDiff, Nat.reduceAdd, Nat.reduceLT, Nat.reduceLeDiff, reduceIte, PlCells, PlEta, h1, Nat.zero_add, hw, WB79, WVH_eq (shut_ok p fr hB.ol hB.os), true_and]
def lastP (ks : List Ky) (n : Int) : Int := ks.foldl (fun a k => if k.fr ≤ n then max a k.to else a) n
theorem lastP_ge (n : Int) : ∀ (ks : List Ky) (a : Int), a ≤ ks.foldl (fun a k => if k.fr ≤ n then max a k.to else a) a
 | [], a => Int.le_refl _
 | k :: r, a => by
  rw [List.foldl_cons]
  refine Int.le_trans ?_ (lastP_ge n r _)
  split <;> omega
theorem lastP_le (n : Int) : ∀ (ks : List Ky) (a : Int), (∀ k ∈ ks, k.to ≤ 9999) → a ≤ 200000 → ks.foldl (fun a k => if k.fr ≤ n then max a k.to else a) a ≤ 200000
 | [], a, _, h => h
 | k :: r, a, hk, h => by
  rw [List.foldl_cons]
  refine lastP_le n r _ (fun x hx => hk x (by simp [hx])) ?_
  have := hk k (by simp)
  split <;> omega
theorem lastTo_ok (p : Pl) (n : Int) (hl : p.opening.length < 1073741824) : RV ft 98 [encP p, I64 n] (I64 (lastP p.opening n)) := by
 refine RV_of ft98 rfl ?_
 simp only [c98, r98]
 simp only [go_sem, Nat.reduceEqDiff, Nat.reduceAdd, Nat.reduceLT, Nat.reduceLeDiff, reduceIte, PlCells, PlEta, encKs_len]
 refine WL_inv (α := Nat × List Ky × Int) (fun q e mm => e 1 = I64 n ∧ e 5 = I64 q.2.2 ∧ e 10 = encKs p.opening ∧ e 11 = I64 p.opening.length ∧ e 12 = I64 q.1 ∧ p.opening.drop q.1 = q.2.1 ∧ q.2.1.foldl (fun a k => if k.fr ≤ n then max a k.to else a) q.2.2 = lastP p.opening n) (fun q => q.2.1.length) (0, p.opening, n) ?_ ?_
 ·simp only [go_sem, Nat.reduceEqDiff, Nat.reduceAdd, Nat.reduceLT, Nat.reduceLeDiff, reduceIte]
  ((repeat' apply And.intro) <;> first | trivial | rfl | omega | assumption)
 rintro ⟨k, r, a⟩ e ⟨bl, tk⟩ ⟨g1, g5, g10, g11, g12, hd, hq⟩
 dsimp only at g5 g12 hd hq
 cases r with
 | nil =>
  have h3 := drop_nil hd
  simp only [go_sem, Nat.reduceEqDiff, Nat.reduceAdd, Nat.reduceLT, Nat.reduceLeDiff, reduceIte, g1, g5, g10, g11, g12, dec_ge h3]
  rw [← hq]; rfl
 | cons x r =>
  obtain ⟨hk, hd2, hlt⟩ := drop_cons hd
  by_cases hc : x.fr ≤ n
  ·simp only [go_sem, Nat.reduceEqDiff, Nat.reduceAdd, Nat.reduceLT, Nat.reduceLeDiff, reduceIte, g1, g5, g10, g11, g12, dec_lt hlt, encKs_idx hk, KyCells, KyEta, decide_eq_true hc, wrap_n1 k (by omega)]
   refine Nx_of (k + 1, r, max a x.to) (by simp) ?_
   simp only [go_sem, Nat.reduceEqDiff, Nat.reduceAdd, Nat.reduceLT, Nat.reduceLeDiff, reduceIte, g1, g10, g11]
   exact ⟨trivial, trivial, trivial, trivial, trivial, hd2, by rw [← hq, List.foldl_cons, if_pos hc]⟩
  ·simp only [go_sem, Nat.reduceEqDiff, Nat.reduceAdd, Nat.reduceLT, Nat.reduceLeDiff, reduceIte, g1, g5, g10, g11, g12, dec_lt hlt, encKs_idx hk, KyCells, KyEta, decide_eq_false hc, wrap_n1 k (by omega)]
   refine Nx_of (k + 1, r, a) (by simp) ?_
   simp only [go_sem, Nat.reduceEqDiff, Nat.reduceAdd, Nat.reduceLT, Nat.reduceLeDiff, reduceIte, g1, g5, g10, g11]
   exact ⟨trivial, trivial, trivial, trivial, trivial, hd2, by rw [← hq, List.foldl_cons, if_neg hc]⟩
def fewF (ks : List Ky) (last : Int) : Nat → Int → Int
 | 0, _ => 0
 | f + 1, n => if n < last then 1 + fewF ks last f (lastP ks n + 1) else 0
def fewP (p : Pl) (fr : Int) : Int := if p.locked then fewF p.opening (fr + p.mins) p.mins.toNat fr else 0
theorem fewest_ok (p : Pl) (fr : Int) (hB : PlB p) (hf : Mn fr) : RV ft 60 [encP p, I64 fr] (I64 (fewP p fr)) := by
 refine RV_of ft60 rfl ?_
 simp only [c60, r60]
 unfold fewP
 have m0 := hB.m0
 have m1 := hB.m1
 have f0 := hf.1
 have f1 := hf.2
 have hw : IntKind.i64.wrap (fr + p.mins) = fr + p.mins := wrap_i64 _ (by omega) (by omega)
 cases hlk : p.locked
 case false => simp only [go_sem, Nat.reduceEqDiff, Nat.reduceAdd, Nat.reduceLT, Nat.reduceLeDiff, reduceIte, PlCells, PlEta, hlk, Nat.zero_add, Bool.false_eq_true]
 have sb : (AV.bool p.locked).solid = true := rfl
 have hcell : (encP p).cells = [I64 p.id, I64 p.film, I64 p.tongue, I64 p.subs, I64 p.mins, .bool true, encI p.assets, encI p.devs, encI p.miss, encKs p.keys, encKs p.opening, encSs p.opn] := by rw [PlCells, hlk]
 have heta : AV.agg [I64 p.id, I64 p.film, I64 p.tongue, I64 p.subs, I64 p.mins, .bool true, encI p.assets, encI p.devs, encI p.miss, encKs p.keys, encKs p.opening, encSs p.opn] = encP p := by rw [← hlk]; rfl
 simp only [go_sem, Nat.reduceEqDiff, Nat.reduceAdd, Nat.reduceLT, Nat.reduceLeDiff, reduceIte, hcell, heta, Nat.zero_add]
 refine WL_inv (α := Nat × Int × Int) (fun q e mm => e 1 = I64 fr ∧ e 2 = .ptr 0 0 0 ∧ e 5 = I64 q.2.1 ∧ e 6 = I64 q.2.2 ∧ mm = ⟨[.live [encP p] 12], []⟩ ∧ fr ≤ q.2.2 ∧ q.2.2 ≤ 300000 ∧ fr + p.mins - q.2.2 ≤ (q.1 : Int) ∧ 0 ≤ q.2.1 ∧ q.2.1 + q.1 ≤ 400 ∧ q.2.1 + fewF p.opening (fr + p.mins) q.1 q.2.2 = fewF p.opening (fr + p.mins) p.mins.toNat fr) (fun q => (fr + p.mins - q.2.2).toNat) (p.mins.toNat, 0, fr) ?_ ?_
 ·simp only [go_sem, Nat.reduceEqDiff, Nat.reduceAdd, Nat.reduceLT, Nat.reduceLeDiff, reduceIte]
  exact ⟨trivial, trivial, trivial, trivial, trivial, by omega, by omega, by omega, by omega, by omega, by omega⟩
 rintro ⟨f, n, nx⟩ e m ⟨g1, g2, g5, g6, rfl, h1, h2, h3, h4, h5, h6⟩
 dsimp only at g5 g6 h1 h2 h3 h4 h5 h6
 by_cases hc : nx < fr + p.mins
 ·have hlg : nx ≤ lastP p.opening nx := lastP_ge nx p.opening nx
  have hll : lastP p.opening nx ≤ 200000 := lastP_le nx p.opening nx (fun k hk => (hB.gb k hk).2.2) (by omega)
  have hw2 : IntKind.i64.wrap (lastP p.opening nx + 1) = lastP p.opening nx + 1 := wrap_i64 _ (by omega) (by omega)
  have hw3 : IntKind.i64.wrap (n + 1) = n + 1 := wrap_i64 _ (by omega) (by omega)
  obtain ⟨f, rfl⟩ : ∃ g, f = g + 1 := ⟨f - 1, by omega⟩
  simp only [go_sem, Nat.reduceEqDiff, Nat.reduceAdd, Nat.reduceLT, Nat.reduceLeDiff, reduceIte, g1, g2, g5, g6, hcell, heta, hw, decide_eq_true hc, Nat.zero_add, WB98, WVH_eq (lastTo_ok p nx hB.gl), hw2, hw3, true_and]
  refine Nx_of (f, n + 1, lastP p.opening nx + 1) (by first | omega | (dsimp only; omega)) ?_
  simp only [go_sem, Nat.reduceEqDiff, Nat.reduceAdd, Nat.reduceLT, Nat.reduceLeDiff, reduceIte, g1, g2]
  refine ⟨trivial, trivial, trivial, trivial, trivial, by omega, by omega, by omega, by omega, by omega, ?_⟩
  rw [← h6, fewF, if_pos hc]; omega
 ·simp only [go_sem, Nat.reduceEqDiff, Nat.reduceAdd, Nat.reduceLT, Nat.reduceLeDiff, reduceIte, g1, g2, g5, g6, hcell, heta, hw, decide_eq_false hc, Nat.zero_add]
  have : fewF p.opening (fr + p.mins) f nx = 0 := by
   cases f with
   | zero => rfl
   | succ f => rw [fewF, if_neg hc]
  rw [this] at h6
  rw [← h6]; simp
theorem byId_ok (k j : Ky) : RV ft 75 [encK k, encK j] (I64 (cmpI k.id j.id)) := by
 refine RV_of ft75 rfl ?_
 simp only [c75, r75]
 simp only [go_sem, Nat.reduceEqDiff, Nat.reduceAdd, Nat.reduceLT, Nat.reduceLeDiff, reduceIte, encK, encI, WB76, WVH_eq (Compare_ok k.id j.id), true_and]
def minK (m : Ky) (l : List Ky) : Ky := l.foldl (fun m x => if x.id < m.id then x else m) m
def nilK : Ky := ⟨0, 0, [], 0, 0⟩
def minOf (l : List Ky) : Ky := match l with | [] => nilK | x :: r => minK x r
theorem MinFunc_ok (x0 : Ky) (r0 : List Ky) (hl : (x0 :: r0).length < 1073741824) : RV ft 78 [encKs (x0 :: r0), .fn 75 [] []] (encK (minK x0 r0)) := by
 refine RV_of ft78 rfl ?_
 simp only [c78, r78]
 obtain ⟨l, hll⟩ : ∃ l, l = x0 :: r0 := ⟨_, rfl⟩
 rw [← hll] at hl ⊢
 have h0 : l[0]? = some x0 := by rw [hll]; rfl
 have hl0 : decide ((l.length : Int) < 1) = false := by rw [hll]; exact decide_eq_false (by simp only [List.length_cons]; omega)
 have hi0 : ∀ m : Mem, idxAt m (encKs l) (I64 0) 5 = some (.pv (encK x0) 0) := fun m => encKs_idx (k := 0) h0 m
 have hwr : ∀ a b : Ky, writeCells (encK a) 0 [I64 b.id, I64 b.comp, encI b.devs, I64 b.fr, I64 b.to] = some (encK b) := fun _ _ => rfl
 simp only [go_sem, Nat.reduceEqDiff, Nat.reduceAdd, Nat.reduceLT, Nat.reduceLeDiff, reduceIte, encKs_len, hl0, hi0, KyCells, KyEta]
 refine WL_inv (α := Nat × List Ky × Ky) (fun q e mm => e 0 = encKs l ∧ e 1 = .fn 75 [] [] ∧ e 4 = .ptr 0 0 0 ∧ e 5 = .ptr 1 0 0 ∧ e 6 = I64 q.1 ∧ l.drop q.1 = q.2.1 ∧ minK q.2.2 q.2.1 = minK x0 r0 ∧ mm = ⟨[.live [.agg [I64 0, I64 0, .sl [] .tight, I64 0, I64 0]] 5, .live [encK q.2.2] 5], []⟩) (fun q => q.2.1.length) (1, r0, x0) ?_ ?_
 ·simp only [go_sem, Nat.reduceEqDiff, Nat.reduceAdd, Nat.reduceLT, Nat.reduceLeDiff, reduceIte]
  ((repeat' apply And.intro) <;> first | trivial | rfl | (rw [hll]; rfl))
 rintro ⟨k, r, mn⟩ e m ⟨g0, g1, g4, g5, g6, hd, hq, rfl⟩
 dsimp only at g6 hd hq
 cases r with
 | nil =>
  have h3 := drop_nil hd
  simp only [go_sem, Nat.reduceEqDiff, Nat.reduceAdd, Nat.reduceLT, Nat.reduceLeDiff, reduceIte, g0, g1, g4, g5, g6, encKs_len, dec_ge h3, KyCells, KyEta]
  rw [← hq]; rfl
 | cons x r =>
  obtain ⟨hk, hd2, hlt⟩ := drop_cons hd
  by_cases hc : x.id < mn.id
  ·simp only [go_sem, Nat.reduceEqDiff, Nat.reduceAdd, Nat.reduceLT, Nat.reduceLeDiff, reduceIte, g0, g1, g4, g5, g6, encKs_len, dec_lt hlt, encKs_idx hk, KyCells, KyEta, WB75, WVH_eq (byId_ok x mn), cmpI_lt, decide_eq_true hc, hwr, true_and, wrap_n1 k (by omega)]
   refine Nx_of (k + 1, r, x) (by simp) ?_
   simp only [go_sem, Nat.reduceEqDiff, Nat.reduceAdd, Nat.reduceLT, Nat.reduceLeDiff, reduceIte, g0, g1, g4, g5]
   exact ⟨trivial, trivial, trivial, trivial, trivial, hd2, by rw [← hq]; unfold minK; rw [List.foldl_cons, if_pos hc], by first | trivial | rfl⟩
  ·simp only [go_sem, Nat.reduceEqDiff, Nat.reduceAdd, Nat.reduceLT, Nat.reduceLeDiff, reduceIte, g0, g1, g4, g5, g6, encKs_len, dec_lt hlt, encKs_idx hk, KyCells, KyEta, WB75, WVH_eq (byId_ok x mn), cmpI_lt, decide_eq_false hc, true_and, wrap_n1 k (by omega)]
   refine Nx_of (k + 1, r, mn) (by simp) ?_
   simp only [go_sem, Nat.reduceEqDiff, Nat.reduceAdd, Nat.reduceLT, Nat.reduceLeDiff, reduceIte, g0, g1, g4, g5]
   exact ⟨trivial, trivial, trivial, trivial, trivial, hd2, by rw [← hq]; unfold minK; rw [List.foldl_cons, if_neg hc], by first | trivial | rfl⟩
theorem minK_mem : ∀ (l : List Ky) (m : Ky), minK m l = m ∨ minK m l ∈ l
 | [], m => .inl rfl
 | x :: r, m => by
  unfold minK
  rw [List.foldl_cons]
  rcases minK_mem r (if x.id < m.id then x else m) with h | h
  ·unfold minK at h
   rw [h]
   split
   ·exact .inr (by simp)
   ·exact .inl rfl
  ·exact .inr (List.mem_cons_of_mem _ h)
def whyP (p : Pl) (fr : Int) : Int × Int :=
 if canP p fr then (0, fr + p.mins - 1)
 else match p.miss with
  | x :: _ => (1, x)
  | [] => if p.locked && ((p.keys.length : Int) == 0) then (2, -1)
   else if p.locked && ((p.opening.length : Int) == 0) then (3, (foreignP p.devs (minOf p.keys)).1)
   else (4, shutP p fr)
theorem whyP_ok (p : Pl) (fr : Int) (hB : PlB p) (hf : Mn fr) : RV ft 44 [encP p, I64 fr] (.tup [I64 (whyP p fr).1, I64 (whyP p fr).2]) := by
 refine RV_of ft44 rfl ?_
 simp only [c44, r44]
 have m0 := hB.m0
 have m1 := hB.m1
 have f0 := hf.1
 have f1 := hf.2
 have hw : IntKind.i64.wrap (fr + p.mins) = fr + p.mins := wrap_i64 _ (by omega) (by omega)
 have hw2 : IntKind.i64.wrap (fr + p.mins - 1) = fr + p.mins - 1 := wrap_i64 _ (by omega) (by omega)
 have hcan := canPlay_ok p fr hB hf
 have hsh := shut_ok p fr hB.ol hB.os
 unfold whyP
 cases h1 : canP p fr
 case true => simp only [go_sem, Nat.reduceEqDiff, Nat.reduceAdd, Nat.reduceLT, Nat.reduceLeDiff, reduceIte, PlCells, PlEta, WB58, WVH_eq hcan, h1, true_and, Nat.zero_add, hw, hw2, Bool.false_eq_true]
 cases hmi : p.miss with
 | cons x r =>
  have c1 : decide ((0 : Int) < (p.miss.length : Int)) = true := by rw [hmi]; exact decide_eq_true (by simp only [List.length_cons]; omega)
  have hi0 : ∀ m : Mem, idxAt m (encI p.miss) (I64 0) 1 = some (.pv (I64 x) 0) := fun m => encI_idx (k := 0) (by rw [hmi]; rfl) m
  simp only [go_sem, Nat.reduceEqDiff, Nat.reduceAdd, Nat.reduceLT, Nat.reduceLeDiff, reduceIte, PlCells, PlEta, WB58, WVH_eq hcan, h1, true_and, Nat.zero_add, c1, hi0, Bool.false_eq_true]
 | nil =>
  have c1 : decide ((0 : Int) < (p.miss.length : Int)) = false := by rw [hmi]; rfl
  cases hlk : p.locked
  case false =>
   have hcell : (encP p).cells = [I64 p.id, I64 p.film, I64 p.tongue, I64 p.subs, I64 p.mins, .bool false, encI p.assets, encI p.devs, encI p.miss, encKs p.keys, encKs p.opening, encSs p.opn] := by rw [PlCells, hlk]
   have heta : AV.agg [I64 p.id, I64 p.film, I64 p.tongue, I64 p.subs, I64 p.mins, .bool false, encI p.assets, encI p.devs, encI p.miss, encKs p.keys, encKs p.opening, encSs p.opn] = encP p := by rw [← hlk]; rfl
   simp only [go_sem, Nat.reduceEqDiff, Nat.reduceAdd, Nat.reduceLT, Nat.reduceLeDiff, reduceIte, hcell, heta, WB58, WVH_eq hcan, h1, true_and, Nat.zero_add, c1, WB79, WVH_eq hsh, Bool.false_eq_true]
  have hcell : (encP p).cells = [I64 p.id, I64 p.film, I64 p.tongue, I64 p.subs, I64 p.mins, .bool true, encI p.assets, encI p.devs, encI p.miss, encKs p.keys, encKs p.opening, encSs p.opn] := by rw [PlCells, hlk]
  have heta : AV.agg [I64 p.id, I64 p.film, I64 p.tongue, I64 p.subs, I64 p.mins, .bool true, encI p.assets, encI p.devs, encI p.miss, encKs p.keys, encKs p.opening, encSs p.opn] = encP p := by rw [← hlk]; rfl
  cases c2 : ((p.keys.length : Int) == 0)
  case true => simp only [go_sem, Nat.reduceEqDiff, Nat.reduceAdd, Nat.reduceLT, Nat.reduceLeDiff, reduceIte, hcell, heta, WB58, WVH_eq hcan, h1, true_and, Nat.zero_add, c1, encKs_len, c2, Bool.false_eq_true]
  cases c3 : ((p.opening.length : Int) == 0)
  case false => simp only [go_sem, Nat.reduceEqDiff, Nat.reduceAdd, Nat.reduceLT, Nat.reduceLeDiff, reduceIte, hcell, heta, WB58, WVH_eq hcan, h1, true_and, Nat.zero_add, c1, encKs_len, c2, c3, WB79, WVH_eq hsh, Bool.false_eq_true]
  obtain ⟨x, r, hkx⟩ : ∃ x r, p.keys = x :: r := by
   cases hk : p.keys with
   | nil => rw [hk] at c2; cases c2
   | cons x r => exact ⟨x, r, rfl⟩
  have hmn := MinFunc_ok x r (by rw [← hkx]; exact hB.kl)
  rw [← hkx] at hmn
  have hmm : minK x r ∈ p.keys := by
   rw [hkx]
   rcases minK_mem r x with h | h
   ·rw [h]; simp
   ·exact List.mem_cons_of_mem _ h
  have hfor := foreign_ok p (minK x r) hB.dl (hB.kd _ hmm)
  have hmo : minOf p.keys = minK x r := by rw [hkx]; rfl
  have hs : ∀ (m : Mem) (q : Nat), snap m (q + 1) (.fn 75 [] []) = .fn 75 [] [] := fun _ _ => rfl
  have hh : ∀ (q : Nat), hot (q + 1) (.fn 75 [] []) = false := fun _ => rfl
  simp only [go_sem, Nat.reduceEqDiff, Nat.reduceAdd, Nat.reduceLT, Nat.reduceLeDiff, reduceIte, hcell, heta, WB58, WVH_eq hcan, h1, true_and, Nat.zero_add, c1, encKs_len, c2, c3, WB78, hs, hh, WVH_eq hmn, WB77, WVH_eq hfor, hmo, Bool.false_eq_true]
theorem okFrom_mem {α : Type} {key : α → Int} {ok : α → Bool} {l : List α} (h : okFrom key ok l 0 l = true) {x : α} (hx : x ∈ l) : ok x = true := by
 obtain ⟨k, hk⟩ := List.getElem?_of_mem hx
 have := (okFrom_drop key ok l l 0 rfl).1 h k (Nat.zero_le _) (List.getElem?_eq_some_iff.1 hk).1
 rw [goodAt_some _ _ hk, Bool.and_eq_true] at this
 exact this.2
theorem findP_mem {α : Type} {p : α → Bool} {z : α} : ∀ {l : List α}, (findP p z l).2 = true → (findP p z l).1 ∈ l ∧ p (findP p z l).1 = true
 | [], h => by cases h
 | x :: r, h => by
  unfold findP at h ⊢
  by_cases hx : p x = true
  ·rw [if_pos hx]; exact ⟨by simp, hx⟩
  ·rw [if_neg hx] at h ⊢
   obtain ⟨h1, h2⟩ := findP_mem h
   exact ⟨List.mem_cons_of_mem _ h1, h2⟩
structure LibV (l : Lb) : Prop where
 na : l.assets.length ≤ 12
 nc : l.comps.length ≤ 8
 nv : l.screens.length ≤ 6
 nk : l.keys.length ≤ 20
 nr : l.recalled.length ≤ 20
 fa : filesL l.assets = true
 co : okFrom Cm.id (compOK l.assets) l.comps 0 l.comps = true
 sc : okFrom Sv.id screenOK l.screens 0 l.screens = true
 ke : ∀ k ∈ l.keys, keyOK k = true
 re : ∀ n ∈ l.recalled, inR n 0 99 = true
theorem libOK_V {l : Lb} : libOK l = true ↔ LibV l := by
 rw [libOK_eq]
 simp only [Bool.and_eq_true, Bool.not_eq_true', decide_eq_false_iff_not, List.all_eq_true]
 constructor
 ·rintro ⟨a1, a2, a3, a4, a5, a6, a7, a8, a9, a10⟩
  exact ⟨by omega, by omega, by omega, by omega, by omega, a2, a4, a6, a8, a10⟩
 ·rintro ⟨a1, a3, a5, a7, a9, a2, a4, a6, a8, a10⟩
  exact ⟨by omega, a2, by omega, a4, by omega, a6, by omega, a8, by omega, a10⟩
theorem checkE_zero {l : Lb} : checkE l = 0 ↔ libOK l = true ∧ clashF l.keys 0 l.keys = false := by
 unfold checkE
 cases libOK l <;> cases clashF l.keys 0 l.keys <;> simp
theorem keyOK_B {k : Ky} (h : keyOK k = true) : KyB k := by
 simp only [keyOK, Bool.and_eq_true, Bool.not_eq_true', decide_eq_false_iff_not] at h
 obtain ⟨_, _, _, _, h5, h6, h7⟩ := h
 exact ⟨by omega, by omega, by omega⟩
theorem LibV.kb {l : Lb} (h : LibV l) : ∀ k ∈ l.keys, KyB k := fun k hk => keyOK_B (h.ke k hk)
theorem stepS_len (acc : List Sp) (k : Ky) : (stepS acc k).length ≤ acc.length + 1 := by
 rcases snoc_of acc with rfl | ⟨a, s, rfl⟩
 ·simp [stepS]
 ·rw [stepS_last]; split <;> simp
theorem foldS_len : ∀ (l : List Ky) (acc : List Sp), (l.foldl stepS acc).length ≤ acc.length + l.length
 | [], acc => by simp
 | k :: l, acc => by
  have h1 := foldS_len l (stepS acc k)
  have h2 := stepS_len acc k
  rw [List.foldl_cons, List.length_cons]; omega
theorem stepS_B {acc : List Sp} {k : Ky} (hk : KyB k) (h : ∀ s ∈ acc, SpB s ∧ 0 ≤ s.lo ∧ s.lo ≤ 9999) : ∀ s ∈ stepS acc k, SpB s ∧ 0 ≤ s.lo ∧ s.lo ≤ 9999 := by
 obtain ⟨k1, k2, k3⟩ := hk
 have hnew : SpB ⟨k.fr, k.to⟩ ∧ 0 ≤ (⟨k.fr, k.to⟩ : Sp).lo ∧ (⟨k.fr, k.to⟩ : Sp).lo ≤ 9999 := ⟨⟨by show 0 ≤ k.to; omega, k3⟩, k1, by show k.fr ≤ 9999; omega⟩
 rcases snoc_of acc with rfl | ⟨a, s, rfl⟩
 ·intro t ht
  simp [stepS] at ht; subst ht; exact hnew
 ·rw [stepS_last]
  obtain ⟨⟨s1, s2⟩, s3, s4⟩ := h s (by simp)
  split
  ·intro t ht
   rcases List.mem_append.1 ht with ht | ht
   ·exact h t (by simp [ht])
   ·obtain rfl := List.mem_singleton.1 ht
    exact ⟨⟨by show 0 ≤ max s.hi k.to; omega, by show max s.hi k.to ≤ 9999; omega⟩, s3, s4⟩
  ·intro t ht
   rcases List.mem_append.1 ht with ht | ht
   ·exact h t ht
   ·obtain rfl := List.mem_singleton.1 ht; exact hnew
theorem foldS_B : ∀ (l : List Ky) (acc : List Sp), (∀ k ∈ l, KyB k) → (∀ s ∈ acc, SpB s ∧ 0 ≤ s.lo ∧ s.lo ≤ 9999) → ∀ s ∈ l.foldl stepS acc, SpB s ∧ 0 ≤ s.lo ∧ s.lo ≤ 9999
 | [], acc, _, h => h
 | k :: l, acc, hk, h => foldS_B l _ (fun x hx => hk x (by simp [hx])) (stepS_B (hk k (by simp)) h)
theorem spans_B {l : List Ky} (hk : ∀ k ∈ l, KyB k) : ∀ s ∈ spansOf l, SpB s ∧ 0 ≤ s.lo ∧ s.lo ≤ 9999 :=
 foldS_B _ [] (fun k h => hk k ((srt_spec l).1.mem_iff.1 h)) fun s hs => by cases hs
theorem spans_len (l : List Ky) : (spansOf l).length ≤ l.length := by
 have := foldS_len (l.mergeSort fun a b => decide (a.fr ≤ b.fr)) []
 rw [(srt_spec l).1.length_eq] at this
 unfold spansOf
 simpa using this
theorem comp_mins {l : Lb} (hV : LibV l) {c : Cm} (hc : c ∈ l.comps) : 1 ≤ c.mins ∧ c.mins ≤ 400 := by
 have := okFrom_mem hV.co hc
 simp only [compOK, Bool.and_eq_true] at this
 have h := this.2.2.2.2.2.1
 simp only [inR, Bool.and_eq_true, decide_eq_true_eq] at h
 exact h
theorem place_B {l : Lb} (hB : LbB l) (hV : LibV l) {c : Cm} {s : Sv} (hc : c ∈ l.comps) (hs : s ∈ l.screens) : PlB (placeP l c s) := by
 have k1 : (keysP l c).length ≤ l.keys.length := List.length_filter_le _ _
 have k2 : (opensP l c s).length ≤ (keysP l c).length := List.length_filter_le _ _
 have hK : ∀ k ∈ opensP l c s, KyB k := fun k hk => hV.kb k (List.mem_filter.1 (List.mem_filter.1 hk).1).1
 have hk := hB.ks
 obtain ⟨m0, m1⟩ := comp_mins hV hc
 have ho : (if c.locked then spansOf (opensP l c s) else [⟨0, 9999⟩]).length < 1073741824 ∧ ∀ t ∈ (if c.locked then spansOf (opensP l c s) else [⟨0, 9999⟩]), SpB t ∧ 0 ≤ t.lo ∧ t.lo ≤ 9999 := by
  split
  ·exact ⟨by have := spans_len (opensP l c s); omega, spans_B hK⟩
  ·refine ⟨by simp, fun t ht => ?_⟩
   obtain rfl := List.mem_singleton.1 ht
   exact ⟨⟨show (0 : Int) ≤ 9999 by decide, show (9999 : Int) ≤ 9999 by decide⟩, show (0 : Int) ≤ 0 by decide, show (0 : Int) ≤ 9999 by decide⟩
 exact ⟨ho.1, fun t ht => (ho.2 t ht).1, fun t ht => (ho.2 t ht).2, m0, m1, by show (keysP l c).length < _; omega, by show (opensP l c s).length < _; omega, fun k hk => hB.kd k (List.mem_filter.1 hk).1, hB.vd s hs, hK,
  by show (missP l.assets c.assets s.files).length < _; have := List.length_filter_le (lacks l.assets s.files) c.assets; have := hB.ca c hc; unfold missP; omega⟩
def zeroP : Pl := ⟨0, 0, 0, 0, 0, false, [], [], [], [], [], []⟩
def foundBoth (l : Lb) (comp screen : Int) : Bool := (compF comp l.comps).2 && (scrF screen l.screens).2
def thePl (l : Lb) (comp screen : Int) : Pl := placeP l (compF comp l.comps).1 (scrF screen l.screens).1
def lookP (l : Lb) (comp screen : Int) : Pl × Int :=
 if checkE l = 0 then (if foundBoth l comp screen then (thePl l comp screen, 0) else (zeroP, 1)) else (zeroP, checkE l)
theorem found_mem {l : Lb} {comp screen : Int} (h : foundBoth l comp screen = true) : (compF comp l.comps).1 ∈ l.comps ∧ (scrF screen l.screens).1 ∈ l.screens := by
 simp only [foundBoth, Bool.and_eq_true] at h
 rw [compF_find, scrF_find] at *
 exact ⟨(findP_mem h.1).1, (findP_mem h.2).1⟩
theorem zP_cells : ∀ (p : Pl), writeCells (.agg [I64 0, I64 0, I64 0, I64 0, I64 0, .bool false, .sl [] .tight, .sl [] .tight, .sl [] .tight, .sl [] .tight, .sl [] .tight, .sl [] .tight]) 0 [I64 p.id, I64 p.film, I64 p.tongue, I64 p.subs, I64 p.mins, .bool p.locked, encI p.assets, encI p.devs, encI p.miss, encKs p.keys, encKs p.opening, encSs p.opn] = some (encP p) := fun _ => rfl
theorem look_ok (l : Lb) (comp screen : Int) (hB : LbB l) : RV ft 54 [encL l, I64 comp, I64 screen] (.tup [encP (lookP l comp screen).1, I64 (lookP l comp screen).2]) := by
 refine RV_of ft54 rfl ?_
 simp only [c54, r54]
 have hch := Check_ok l hB
 unfold lookP
 by_cases h0 : checkE l = 0
 case neg =>
  have hne : (checkE l != 0) = true := by simpa using h0
  rw [if_neg h0]
  simp only [go_sem, Nat.reduceEqDiff, Nat.reduceAdd, Nat.reduceLT, Nat.reduceLeDiff, reduceIte, LbCells, LbEta, WB32, WVH_eq hch, hne, true_and]
  rfl
 have hne : (checkE l != 0) = false := by simpa using h0
 obtain ⟨hv, _⟩ := checkE_zero.1 h0
 have hV := libOK_V.1 hv
 rw [if_pos h0]
 have hfc := findComp_ok l comp hB.cs
 have hfs := findScreen_ok l screen hB.vs
 have hwc : ∀ c : Cm, writeCells (.agg [I64 0, I64 0, I64 0, I64 0, I64 0, .bool false, .sl [] .tight]) 0 [I64 c.id, I64 c.film, I64 c.tongue, I64 c.subs, I64 c.mins, .bool c.locked, encI c.assets] = some (encC c) := fun _ => rfl
 have hwv : ∀ c : Sv, writeCells (.agg [I64 0, .sl [] .tight, .sl [] .tight]) 0 [I64 c.id, encI c.devs, encFs c.files] = some (encV c) := fun _ => rfl
 cases h1 : (compF comp l.comps).2
 case false =>
  simp only [go_sem, Nat.reduceEqDiff, Nat.reduceAdd, Nat.reduceLT, Nat.reduceLeDiff, reduceIte, LbCells, LbEta, WB32, WVH_eq hch, hne, true_and, WB94, WVH_eq hfc, h1, CmCells, CmEta, hwc, WB67, WVH_eq hfs, SvCells, SvEta, hwv]
  simp only [foundBoth, h1]; rfl
 cases h2 : (scrF screen l.screens).2
 case false =>
  simp only [go_sem, Nat.reduceEqDiff, Nat.reduceAdd, Nat.reduceLT, Nat.reduceLeDiff, reduceIte, LbCells, LbEta, WB32, WVH_eq hch, hne, true_and, WB94, WVH_eq hfc, h1, CmCells, CmEta, hwc, WB67, WVH_eq hfs, SvCells, SvEta, hwv, h2]
  simp only [foundBoth, h1, h2]; rfl
 have hfb : foundBoth l comp screen = true := by simp only [foundBoth, h1, h2]; rfl
 obtain ⟨hcm, hsm⟩ := found_mem hfb
 have hpl := place_ok l (compF comp l.comps).1 (scrF screen l.screens).1 hB (hB.ca _ hcm) (hB.vd _ hsm) (hB.vf _ hsm) hV.kb
 simp only [go_sem, Nat.reduceEqDiff, Nat.reduceAdd, Nat.reduceLT, Nat.reduceLeDiff, reduceIte, LbCells, LbEta, WB32, WVH_eq hch, hne, true_and, WB94, WVH_eq hfc, h1, CmCells, CmEta, hwc, WB67, WVH_eq hfs, SvCells, SvEta, hwv, h2, WB71, WVH_eq hpl, PlCells, PlEta, zP_cells]
 rw [hfb]; rfl
def lookAtP (l : Lb) (comp screen m : Int) : Pl × Int := if ((lookP l comp screen).2 == 0) && !inR m 0 9999 then (zeroP, 1) else lookP l comp screen
theorem lookAt_ok (l : Lb) (comp screen m : Int) (hB : LbB l) : RV ft 43 [encL l, I64 comp, I64 screen, I64 m] (.tup [encP (lookAtP l comp screen m).1, I64 (lookAtP l comp screen m).2]) := by
 refine RV_of ft43 rfl ?_
 simp only [c43, r43]
 have hlo := look_ok l comp screen hB
 unfold lookAtP
 cases h1 : ((lookP l comp screen).2 == 0)
 case false =>
  simp only [go_sem, Nat.reduceEqDiff, Nat.reduceAdd, Nat.reduceLT, Nat.reduceLeDiff, reduceIte, LbCells, LbEta, WB54, WVH_eq hlo, PlCells, PlEta, zP_cells, h1, true_and]
  rfl
 cases h2 : inR m 0 9999
 case false =>
  simp only [go_sem, Nat.reduceEqDiff, Nat.reduceAdd, Nat.reduceLT, Nat.reduceLeDiff, reduceIte, LbCells, LbEta, WB54, WVH_eq hlo, PlCells, PlEta, zP_cells, h1, WB68, WVH_eq (isTime_ok m), h2, true_and]
  rfl
 simp only [go_sem, Nat.reduceEqDiff, Nat.reduceAdd, Nat.reduceLT, Nat.reduceLeDiff, reduceIte, LbCells, LbEta, WB54, WVH_eq hlo, PlCells, PlEta, zP_cells, h1, WB68, WVH_eq (isTime_ok m), h2, true_and]
 rfl
theorem lookAt_zero {l : Lb} {comp screen m : Int} (h : (lookAtP l comp screen m).2 = 0) : checkE l = 0 ∧ foundBoth l comp screen = true ∧ inR m 0 9999 = true ∧ lookAtP l comp screen m = (thePl l comp screen, 0) := by
 unfold lookAtP at h ⊢
 by_cases h1 : checkE l = 0
 ·by_cases h2 : foundBoth l comp screen = true
  ·have hl : lookP l comp screen = (thePl l comp screen, 0) := by unfold lookP; rw [if_pos h1, if_pos h2]
   rw [hl] at h ⊢
   cases h3 : inR m 0 9999
   ·rw [h3] at h; simp at h
   ·exact ⟨h1, h2, rfl, by simp⟩
  ·have hl : lookP l comp screen = (zeroP, 1) := by unfold lookP; rw [if_pos h1, if_neg h2]
   rw [hl] at h; simp at h
 ·have hl : lookP l comp screen = (zeroP, checkE l) := by unfold lookP; rw [if_neg h1]
  rw [hl] at h
  simp [h1] at h
theorem thePl_B {l : Lb} {comp screen : Int} (hB : LbB l) (h0 : checkE l = 0) (hf : foundBoth l comp screen = true) : PlB (thePl l comp screen) := by
 obtain ⟨h1, h2⟩ := found_mem hf
 exact place_B hB (libOK_V.1 (checkE_zero.1 h0).1) h1 h2
theorem inR_Mn {m : Int} (h : inR m 0 9999 = true) : Mn m := by
 simp only [inR, Bool.and_eq_true, decide_eq_true_eq] at h
 exact ⟨by omega, by omega⟩
def whyE (l : Lb) (comp screen m : Int) : Int × Int × Int :=
 if (lookAtP l comp screen m).2 = 0 then ((whyP (lookAtP l comp screen m).1 m).1, (whyP (lookAtP l comp screen m).1 m).2, 0) else (0, 0, (lookAtP l comp screen m).2)
theorem resOf_ttt (s : St) (a b c : Nat) : resOf s [.t a, .t b, .t c] = some (.tup [s.env a, s.env b, s.env c]) := rfl
theorem Why_ok (l : Lb) (comp screen m : Int) (hB : LbB l) : RV ft 18 [encL l, I64 comp, I64 screen, I64 m] (.tup [I64 (whyE l comp screen m).1, I64 (whyE l comp screen m).2.1, I64 (whyE l comp screen m).2.2]) := by
 refine RV_of ft18 rfl ?_
 simp only [c18, r18]
 have hlo := lookAt_ok l comp screen m hB
 unfold whyE
 by_cases h : (lookAtP l comp screen m).2 = 0
 case neg =>
  have hne : ((lookAtP l comp screen m).2 != 0) = true := by simpa using h
  rw [if_neg h]
  simp only [go_sem, Nat.reduceEqDiff, Nat.reduceAdd, Nat.reduceLT, Nat.reduceLeDiff, reduceIte, LbCells, LbEta, WB43, WVH_eq hlo, PlCells, PlEta, zP_cells, hne, true_and, resOf_ttt]
 have hne : ((lookAtP l comp screen m).2 != 0) = false := by simpa using h
 obtain ⟨h1, h2, h3, h4⟩ := lookAt_zero h
 have hw := whyP_ok (thePl l comp screen) m (thePl_B hB h1 h2) (inR_Mn h3)
 rw [if_pos h]
 rw [h4] at hlo hne ⊢
 simp only [go_sem, Nat.reduceEqDiff, Nat.reduceAdd, Nat.reduceLT, Nat.reduceLeDiff, reduceIte, LbCells, LbEta, WB43, WVH_eq hlo, PlCells, PlEta, zP_cells, hne, true_and, WB44, WVH_eq hw, resOf_ttt]
theorem Missing_ok (l : Lb) (comp screen : Int) (hB : LbB l) : RV ft 24 [encL l, I64 comp, I64 screen] (.tup [encI (lookP l comp screen).1.miss, I64 (lookP l comp screen).2]) := by
 refine RV_of ft24 rfl ?_
 simp only [c24, r24]
 have hlo := look_ok l comp screen hB
 simp only [go_sem, Nat.reduceEqDiff, Nat.reduceAdd, Nat.reduceLT, Nat.reduceLeDiff, reduceIte, LbCells, LbEta, WB54, WVH_eq hlo, PlCells, PlEta, zP_cells, true_and]
def fewE (l : Lb) (comp screen m : Int) : Int × Int :=
 if (lookAtP l comp screen m).2 = 0 then (if canP (lookAtP l comp screen m).1 m then (fewP (lookAtP l comp screen m).1 m, 0) else (0, 3)) else (0, (lookAtP l comp screen m).2)
theorem Fewest_ok (l : Lb) (comp screen m : Int) (hB : LbB l) : RV ft 29 [encL l, I64 comp, I64 screen, I64 m] (.tup [I64 (fewE l comp screen m).1, I64 (fewE l comp screen m).2]) := by
 refine RV_of ft29 rfl ?_
 simp only [c29, r29]
 have hlo := lookAt_ok l comp screen m hB
 unfold fewE
 by_cases h : (lookAtP l comp screen m).2 = 0
 case neg =>
  have hne : ((lookAtP l comp screen m).2 != 0) = true := by simpa using h
  rw [if_neg h]
  simp only [go_sem, Nat.reduceEqDiff, Nat.reduceAdd, Nat.reduceLT, Nat.reduceLeDiff, reduceIte, LbCells, LbEta, WB43, WVH_eq hlo, PlCells, PlEta, zP_cells, hne, true_and]
 have hne : ((lookAtP l comp screen m).2 != 0) = false := by simpa using h
 obtain ⟨h1, h2, h3, h4⟩ := lookAt_zero h
 have hPB := thePl_B hB h1 h2
 rw [if_pos h]
 rw [h4] at hlo hne ⊢
 generalize thePl l comp screen = p at hlo hne hPB
 dsimp only at hlo hne ⊢
 have hcan := canPlay_ok p m hPB (inR_Mn h3)
 have hfew := fewest_ok p m hPB (inR_Mn h3)
 cases hc : canP p m
 ·simp only [go_sem, Nat.reduceEqDiff, Nat.reduceAdd, Nat.reduceLT, Nat.reduceLeDiff, reduceIte, LbCells, LbEta, WB43, WVH_eq hlo, PlCells, PlEta, zP_cells, hne, true_and, WB58, WVH_eq hcan, hc]
  rfl
 ·simp only [go_sem, Nat.reduceEqDiff, Nat.reduceAdd, Nat.reduceLT, Nat.reduceLeDiff, reduceIte, LbCells, LbEta, WB43, WVH_eq hlo, PlCells, PlEta, zP_cells, hne, true_and, WB58, WVH_eq hcan, hc, WB60, WVH_eq hfew]
def ex1 : Ky := ⟨1, 7, [4, 5], 100, 250⟩
def ex2 : Ky := ⟨2, 7, [4, 5, 6], 240, 400⟩
def ex3 : Ky := ⟨3, 8, [4], 0, 999⟩
def exL : Lb := ⟨[⟨1, 11⟩, ⟨2, 22⟩, ⟨3, 33⟩], [⟨7, 1, 1, 0, 100, true, [1, 2]⟩, ⟨8, 1, 2, 1, 100, true, [1, 3]⟩, ⟨9, 2, 1, 0, 20, false, [3]⟩],
 [⟨1, [4, 5], [⟨1, 11⟩, ⟨2, 22⟩, ⟨3, 30⟩]⟩, ⟨2, [6], [⟨1, 11⟩, ⟨3, 33⟩]⟩], [ex1, ex2, ex3], []⟩
theorem Example_ok : RV ft 42 [] (encL exL) := by
 refine RV_of ft42 rfl ?_
 simp only [c42, r42]
 simp only [go_sem, Nat.reduceEqDiff, Nat.reduceAdd, Nat.reduceLT, Nat.reduceLeDiff, reduceIte]
 rfl
theorem sameInts_ok (a b : List Int) (ha : a.length < 1073741824) : RV ft 35 [encI a, encI b] (.bool (eqL a b)) := by
 refine RV_of ft35 rfl ?_
 simp only [c35, r35]
 by_cases hl : a.length = b.length
 case neg =>
  have h2 : (a.length == b.length) = false := by rw [beq_eq_false_iff_ne]; exact hl
  simp only [go_sem, Nat.reduceEqDiff, Nat.reduceAdd, Nat.reduceLT, Nat.reduceLeDiff, reduceIte, neq_len, h2, Bool.not_false]
  rw [eqL_len hl]
 have h2 : (a.length == b.length) = true := by rw [hl]; simp
 simp only [go_sem, Nat.reduceEqDiff, Nat.reduceAdd, Nat.reduceLT, Nat.reduceLeDiff, reduceIte, neq_len, h2, Bool.not_true]
 refine WL_inv (α := Nat × List Int × List Int) (fun q e mm => e 0 = encI a ∧ e 1 = encI b ∧ e 5 = I64 q.1 ∧ a.drop q.1 = q.2.1 ∧ b.drop q.1 = q.2.2 ∧ eqL q.2.1 q.2.2 = eqL a b) (fun q => q.2.1.length) (0, a, b) ?_ ?_
 ·simp only [go_sem, Nat.reduceEqDiff, Nat.reduceAdd, Nat.reduceLT, Nat.reduceLeDiff, reduceIte]
  ((repeat' apply And.intro) <;> first | trivial | rfl | omega | assumption)
 rintro ⟨k, r, s⟩ e m ⟨h0, h1, h5, hd, he, hq⟩
 dsimp only at h5 hd he hq
 cases r with
 | nil =>
  have h3 := drop_nil hd
  have : s = [] := by rw [← he]; exact List.drop_eq_nil_of_le (by omega)
  subst this
  simp only [go_sem, Nat.reduceEqDiff, Nat.reduceAdd, Nat.reduceLT, Nat.reduceLeDiff, reduceIte, h0, h1, h5, dec_ge h3]
  rw [← hq]; rfl
 | cons x r =>
  obtain ⟨hk, hd2, hlt⟩ := drop_cons hd
  cases s with
  | nil => have := drop_nil he; omega
  | cons y s =>
   obtain ⟨hk', he2, hlt'⟩ := drop_cons he
   cases hxy : (x == y)
   ·have hne : (x != y) = true := by simp [bne, hxy]
    simp only [go_sem, Nat.reduceEqDiff, Nat.reduceAdd, Nat.reduceLT, Nat.reduceLeDiff, reduceIte, h0, h1, h5, dec_lt hlt, encI_idx hk, encI_idx hk', hne]
    rw [← hq]; simp [eqL, hxy]
   ·have hne : (x != y) = false := by simp [bne, hxy]
    simp only [go_sem, Nat.reduceEqDiff, Nat.reduceAdd, Nat.reduceLT, Nat.reduceLeDiff, reduceIte, h0, h1, h5, dec_lt hlt, encI_idx hk, encI_idx hk', hne, wrap_n1 k (by omega)]
    refine Nx_of (k + 1, r, s) (by simp) ?_
    simp only [go_sem, Nat.reduceEqDiff, Nat.reduceAdd, Nat.reduceLT, Nat.reduceLeDiff, reduceIte, h0, h1]
    exact ⟨trivial, trivial, trivial, hd2, he2, by rw [← hq]; simp [eqL, hxy]⟩
theorem exB : LbB exL := by
 refine ⟨by decide, by decide, by decide, by decide, by decide, fun c hc => ?_, fun s hs => ?_, fun s hs => ?_, fun k hk => ?_⟩
 ·simp only [exL, List.mem_cons, List.not_mem_nil, or_false] at hc; rcases hc with rfl | rfl | rfl <;> decide
 ·simp only [exL, List.mem_cons, List.not_mem_nil, or_false] at hs; rcases hs with rfl | rfl <;> decide
 ·simp only [exL, List.mem_cons, List.not_mem_nil, or_false] at hs; rcases hs with rfl | rfl <;> decide
 ·simp only [exL, List.mem_cons, List.not_mem_nil, or_false] at hk; rcases hk with rfl | rfl | rfl <;> decide
theorem ex_check : checkE exL = 0 := by decide
def exP : Pl := ⟨7, 1, 1, 0, 100, true, [1, 2], [4, 5], [], [ex1, ex2], [ex1, ex2], [⟨100, 400⟩]⟩
theorem ex_opens : opensP exL ⟨7, 1, 1, 0, 100, true, [1, 2]⟩ ⟨1, [4, 5], [⟨1, 11⟩, ⟨2, 22⟩, ⟨3, 30⟩]⟩ = [ex1, ex2] := by rfl
theorem ex_spans : spansOf [ex1, ex2] = [⟨100, 400⟩] := by
 rw [← spansOf_eq (l := [ex1, ex2]) (l' := [ex1, ex2]) (fun k hk => by simp only [List.mem_cons, List.not_mem_nil, or_false] at hk; rcases hk with rfl | rfl <;> decide) (List.Perm.refl _) (by simp [ex1, ex2])]
 rfl
theorem ex_place : thePl exL 7 1 = exP := by
 show placeP exL ⟨7, 1, 1, 0, 100, true, [1, 2]⟩ ⟨1, [4, 5], [⟨1, 11⟩, ⟨2, 22⟩, ⟨3, 30⟩]⟩ = exP
 unfold placeP
 rw [ex_opens, ex_spans]
 rfl
theorem ex_why : whyE exL 7 1 302 = (4, 401, 0) := by
 have h : lookAtP exL 7 1 302 = (exP, 0) := by
  unfold lookAtP lookP
  rw [if_pos ex_check, ex_place]; rfl
 unfold whyE
 rw [h]; decide
theorem ex_few : fewE exL 7 1 200 = (2, 0) := by
 have h : lookAtP exL 7 1 200 = (exP, 0) := by
  unfold lookAtP lookP
  rw [if_pos ex_check, ex_place]; rfl
 unfold fewE
 rw [h]; decide
theorem ex_miss : (lookP exL 8 1).1.miss = [3] ∧ (lookP exL 8 1).2 = 0 := by
 unfold lookP
 rw [if_pos ex_check]
 exact ⟨rfl, rfl⟩
theorem works_ok : RV ft 15 [] (.bool true) := by
 refine RV_of ft15 rfl ?_
 simp only [c15, r15]
 have h1 := Why_ok exL 7 1 302 exB
 have h2 := Fewest_ok exL 7 1 200 exB
 have h3 := Missing_ok exL 8 1 exB
 rw [ex_why] at h1
 rw [ex_few] at h2
 rw [ex_miss.1, ex_miss.2] at h3
 dsimp only at h1 h2
 have hwl : ∀ l : Lb, writeCells (.agg [.sl [] .tight, .sl [] .tight, .sl [] .tight, .sl [] .tight, .sl [] .tight]) 0 [encFs l.assets, encCs l.comps, encVs l.screens, encYs l.keys, encI l.recalled] = some (encL l) := fun _ => rfl
 have h4 : RV ft 35 [encI [3], .sl [I64 3] .unk] (.bool true) := sameInts_ok [3] [3] (by decide)
 simp only [go_sem, Nat.reduceEqDiff, Nat.reduceAdd, Nat.reduceLT, Nat.reduceLeDiff, reduceIte, WB42, WVH_eq Example_ok, true_and, LbCells, LbEta, hwl, WB18, WVH_eq h1, WB29, WVH_eq h2, WB24, WVH_eq h3, WB35, WVH_eq h4]
def bigC (c : Cm) : Bool := decide (50 < (c.assets.length : Int))
def bigV (s : Sv) : Bool := decide (50 < (s.devs.length : Int)) || decide (50 < (s.files.length : Int))
def bigK (k : Ky) : Bool := decide (50 < (k.devs.length : Int))
def bigL (l : Lb) : Bool := decide (50 < (l.assets.length : Int)) || (decide (30 < (l.comps.length : Int)) || (decide (30 < (l.screens.length : Int)) || (decide (50 < (l.keys.length : Int)) || decide (50 < (l.recalled.length : Int)))))
def farL (l : Lb) : Bool := bigL l || (l.comps.any bigC || (l.screens.any bigV || l.keys.any bigK))
theorem Far_ok (l : Lb) : RV ft 31 [encL l] (.bool (farL l)) := by
 refine RV_of ft31 rfl ?_
 simp only [c31, r31]
 obtain ⟨S, hS⟩ : ∃ S, S = farL l := ⟨_, rfl⟩
 rw [← hS]
 cases h1 : decide (50 < (l.assets.length : Int))
 case true => simp only [go_sem, Nat.reduceEqDiff, Nat.reduceAdd, Nat.reduceLT, Nat.reduceLeDiff, reduceIte, LbCells, h1]; rw [hS]; simp [farL, bigL, h1]
 cases h2 : decide (30 < (l.comps.length : Int))
 case true => simp only [go_sem, Nat.reduceEqDiff, Nat.reduceAdd, Nat.reduceLT, Nat.reduceLeDiff, reduceIte, LbCells, h1, h2]; rw [hS]; simp [farL, bigL, h1, h2]
 cases h3 : decide (30 < (l.screens.length : Int))
 case true => simp only [go_sem, Nat.reduceEqDiff, Nat.reduceAdd, Nat.reduceLT, Nat.reduceLeDiff, reduceIte, LbCells, h1, h2, h3]; rw [hS]; simp [farL, bigL, h1, h2, h3]
 cases h4 : decide (50 < (l.keys.length : Int))
 case true => simp only [go_sem, Nat.reduceEqDiff, Nat.reduceAdd, Nat.reduceLT, Nat.reduceLeDiff, reduceIte, LbCells, h1, h2, h3, h4]; rw [hS]; simp [farL, bigL, h1, h2, h3, h4]
 cases h5 : decide (50 < (l.recalled.length : Int))
 case true => simp only [go_sem, Nat.reduceEqDiff, Nat.reduceAdd, Nat.reduceLT, Nat.reduceLeDiff, reduceIte, LbCells, h1, h2, h3, h4, h5]; rw [hS]; simp [farL, bigL, h1, h2, h3, h4, h5]
 have hbl : bigL l = false := by simp only [bigL, h1, h2, h3, h4, h5]; rfl
 have hl2 := of_decide_eq_false h2
 have hl3 := of_decide_eq_false h3
 have hl4 := of_decide_eq_false h4
 simp only [go_sem, Nat.reduceEqDiff, Nat.reduceAdd, Nat.reduceLT, Nat.reduceLeDiff, reduceIte, LbCells, h1, h2, h3, h4, h5]
 refine WL_inv (α := Nat × List Cm) (fun q e mm => e 1 = .ptr 0 0 0 ∧ e 3 = I64 q.1 ∧ l.comps.drop q.1 = q.2 ∧ mm = ⟨[.live [encL l] 5], []⟩ ∧ q.2.any bigC = l.comps.any bigC) (fun q => q.2.length) (0, l.comps) ?_ ?_
 ·simp only [go_sem, Nat.reduceEqDiff, Nat.reduceAdd, Nat.reduceLT, Nat.reduceLeDiff, reduceIte]
  ((repeat' apply And.intro) <;> first | trivial | rfl | omega | assumption)
 rintro ⟨k, r⟩ e m ⟨g1, g3, hd, rfl, hq⟩
 dsimp only at g3 hd hq
 cases r
 case cons x r =>
  obtain ⟨hk, hd2, hlt⟩ := drop_cons hd
  cases hx : decide (50 < (x.assets.length : Int))
  case true =>
   simp only [go_sem, Nat.reduceEqDiff, Nat.reduceAdd, Nat.reduceLT, Nat.reduceLeDiff, reduceIte, g1, g3, LbCells, dec_lt hlt, encCs_idx hk, CmCells, Nat.zero_add, hx]
   rw [hS]; simp only [farL, ← hq, List.any_cons, bigC, hx]; simp
  simp only [go_sem, Nat.reduceEqDiff, Nat.reduceAdd, Nat.reduceLT, Nat.reduceLeDiff, reduceIte, g1, g3, LbCells, dec_lt hlt, encCs_idx hk, CmCells, Nat.zero_add, hx, wrap_n1 k (by omega)]
  refine Nx_of (k + 1, r) (by simp) ?_
  simp only [go_sem, Nat.reduceEqDiff, Nat.reduceAdd, Nat.reduceLT, Nat.reduceLeDiff, reduceIte, g1]
  exact ⟨trivial, trivial, hd2, trivial, by rw [← hq]; simp only [List.any_cons, bigC, hx]; rfl⟩
 have hz := drop_nil hd
 have hcm : l.comps.any bigC = false := by rw [← hq]; rfl
 simp only [go_sem, Nat.reduceEqDiff, Nat.reduceAdd, Nat.reduceLT, Nat.reduceLeDiff, reduceIte, g1, g3, LbCells, dec_ge hz]
 clear hd hq hz
 refine WL_inv (α := Nat × List Sv) (fun q e mm => e 1 = .ptr 0 0 0 ∧ e 4 = I64 q.1 ∧ l.screens.drop q.1 = q.2 ∧ mm = ⟨[.live [encL l] 5], []⟩ ∧ q.2.any bigV = l.screens.any bigV) (fun q => q.2.length) (0, l.screens) ?_ ?_
 ·simp only [go_sem, Nat.reduceEqDiff, Nat.reduceAdd, Nat.reduceLT, Nat.reduceLeDiff, reduceIte, g1]
  ((repeat' apply And.intro) <;> first | trivial | rfl | omega | assumption)
 clear g1 g3 e
 rintro ⟨k, r⟩ e m ⟨g1, g3, hd, rfl, hq⟩
 dsimp only at g3 hd hq
 cases r
 case cons x r =>
  obtain ⟨hk, hd2, hlt⟩ := drop_cons hd
  cases hx : decide (50 < (x.devs.length : Int))
  case true =>
   simp only [go_sem, Nat.reduceEqDiff, Nat.reduceAdd, Nat.reduceLT, Nat.reduceLeDiff, reduceIte, g1, g3, LbCells, dec_lt hlt, encVs_idx hk, SvCells, Nat.zero_add, hx]
   rw [hS]; simp only [farL, ← hq, List.any_cons, bigV, hx]; simp
  cases hy : decide (50 < (x.files.length : Int))
  case true =>
   simp only [go_sem, Nat.reduceEqDiff, Nat.reduceAdd, Nat.reduceLT, Nat.reduceLeDiff, reduceIte, g1, g3, LbCells, dec_lt hlt, encVs_idx hk, SvCells, Nat.zero_add, hx, hy]
   rw [hS]; simp only [farL, ← hq, List.any_cons, bigV, hx, hy]; simp
  simp only [go_sem, Nat.reduceEqDiff, Nat.reduceAdd, Nat.reduceLT, Nat.reduceLeDiff, reduceIte, g1, g3, LbCells, dec_lt hlt, encVs_idx hk, SvCells, Nat.zero_add, hx, hy, wrap_n1 k (by omega)]
  refine Nx_of (k + 1, r) (by simp) ?_
  simp only [go_sem, Nat.reduceEqDiff, Nat.reduceAdd, Nat.reduceLT, Nat.reduceLeDiff, reduceIte, g1]
  exact ⟨trivial, trivial, hd2, trivial, by rw [← hq]; simp only [List.any_cons, bigV, hx, hy]; rfl⟩
 have hz := drop_nil hd
 have hvs : l.screens.any bigV = false := by rw [← hq]; rfl
 simp only [go_sem, Nat.reduceEqDiff, Nat.reduceAdd, Nat.reduceLT, Nat.reduceLeDiff, reduceIte, g1, g3, LbCells, dec_ge hz]
 clear hd hq hz
 refine WL_inv (α := Nat × List Ky) (fun q e mm => e 1 = .ptr 0 0 0 ∧ e 5 = I64 q.1 ∧ l.keys.drop q.1 = q.2 ∧ mm = ⟨[.live [encL l] 5], []⟩ ∧ q.2.any bigK = l.keys.any bigK) (fun q => q.2.length) (0, l.keys) ?_ ?_
 ·simp only [go_sem, Nat.reduceEqDiff, Nat.reduceAdd, Nat.reduceLT, Nat.reduceLeDiff, reduceIte, g1]
  ((repeat' apply And.intro) <;> first | trivial | rfl | omega | assumption)
 clear g1 g3 e
 rintro ⟨k, r⟩ e m ⟨g1, g3, hd, rfl, hq⟩
 dsimp only at g3 hd hq
 cases r
 case cons x r =>
  obtain ⟨hk, hd2, hlt⟩ := drop_cons hd
  cases hx : decide (50 < (x.devs.length : Int))
  case true =>
   simp only [go_sem, Nat.reduceEqDiff, Nat.reduceAdd, Nat.reduceLT, Nat.reduceLeDiff, reduceIte, g1, g3, LbCells, dec_lt hlt, encYs_idx hk, KyCells, Nat.zero_add, hx]
   rw [hS]; simp only [farL, ← hq, List.any_cons, bigK, hx]; simp
  simp only [go_sem, Nat.reduceEqDiff, Nat.reduceAdd, Nat.reduceLT, Nat.reduceLeDiff, reduceIte, g1, g3, LbCells, dec_lt hlt, encYs_idx hk, KyCells, Nat.zero_add, hx, wrap_n1 k (by omega)]
  refine Nx_of (k + 1, r) (by simp) ?_
  simp only [go_sem, Nat.reduceEqDiff, Nat.reduceAdd, Nat.reduceLT, Nat.reduceLeDiff, reduceIte, g1]
  exact ⟨trivial, trivial, hd2, trivial, by rw [← hq]; simp only [List.any_cons, bigK, hx]; rfl⟩
 have hz := drop_nil hd
 have hks : l.keys.any bigK = false := by rw [← hq]; rfl
 simp only [go_sem, Nat.reduceEqDiff, Nat.reduceAdd, Nat.reduceLT, Nat.reduceLeDiff, reduceIte, g1, g3, LbCells, dec_ge hz]
 rw [hS]; simp only [farL, hbl, hcm, hvs, hks]; rfl
structure NearL (l : Lb) : Prop where
 as : l.assets.length ≤ 50
 cs : l.comps.length ≤ 30
 vs : l.screens.length ≤ 30
 ks : l.keys.length ≤ 50
 rs : l.recalled.length ≤ 50
 ca : ∀ c ∈ l.comps, c.assets.length ≤ 50
 vd : ∀ s ∈ l.screens, s.devs.length ≤ 50
 vf : ∀ s ∈ l.screens, s.files.length ≤ 50
 kd : ∀ k ∈ l.keys, k.devs.length ≤ 50
theorem farL_near {l : Lb} (h : farL l = false) : NearL l := by
 simp only [farL, bigL, Bool.or_eq_false_iff, decide_eq_false_iff_not, List.any_eq_false] at h
 obtain ⟨⟨h1, h2, h3, h4, h5⟩, h6, h7, h8⟩ := h
 refine ⟨by omega, by omega, by omega, by omega, by omega, fun c hc => ?_, fun s hs => ?_, fun s hs => ?_, fun k hk => ?_⟩
 ·have := h6 c hc; simp [bigC] at this; omega
 ·have := h7 s hs; simp [bigV] at this; omega
 ·have := h7 s hs; simp [bigV] at this; omega
 ·have := h8 k hk; simp [bigK] at this; omega
theorem NearL.B {l : Lb} (h : NearL l) : LbB l :=
 ⟨by have := h.as; omega, by have := h.cs; omega, by have := h.vs; omega, by have := h.ks; omega, by have := h.rs; omega,
  fun c hc => by have := h.ca c hc; omega, fun s hs => by have := h.vd s hs; omega, fun s hs => by have := h.vf s hs; omega, fun k hk => by have := h.kd k hk; omega⟩
structure Ask where
 comp : Int
 screen : Int
 fr : Int
def encA (a : Ask) : AV := .agg [I64 a.comp, I64 a.screen, I64 a.fr]
theorem AkCells (a : Ask) : (encA a).cells = [I64 a.comp, I64 a.screen, I64 a.fr] := rfl
theorem AkEta (a : Ask) : AV.agg [I64 a.comp, I64 a.screen, I64 a.fr] = encA a := rfl
theorem snA (m : Mem) (q : Nat) (a : Ask) : snap m (q + 2) (encA a) = encA a := rfl
theorem hotA (q : Nat) (a : Ask) : hot (q + 2) (encA a) = false := rfl
structure Ready (l : Lb) (a : Ask) : Prop where
 near : NearL l
 chk : checkE l = 0
 f0 : 0 ≤ a.fr
 f1 : a.fr ≤ 9999
 fnd : foundBoth l a.comp a.screen = true
def inSb (l : List Sp) (n : Int) : Bool := l.any fun s => decide (s.lo ≤ n) && decide (n ≤ s.hi)
theorem inSb_iff (l : List Sp) (n : Int) : inSb l n = true ↔ inSp l n := by
 simp [inSb, inSp]
attribute [go_sem] snA hotA
theorem NF_apart : ∀ {l : List Sp}, NF l → ∀ s ∈ l, ∀ t ∈ l, s = t ∨ s.hi + 1 < t.lo ∨ t.hi + 1 < s.lo
 | [], _, s, hs, _, _ => by cases hs
 | x :: r, h, s, hs, t, ht => by
  obtain ⟨h1, h2, h3⟩ := h
  rcases List.mem_cons.1 hs with e1 | hs' <;> rcases List.mem_cons.1 ht with e2 | ht'
  ·exact .inl (e1.trans e2.symm)
  ·subst e1; exact .inr (.inl (h2 t ht'))
  ·subst e2; exact .inr (.inr (h2 s hs'))
  ·exact NF_apart h3 s hs' t ht'
theorem findS_spec (fr : Int) (l : List Sp) : ((findS fr l).2 = true ∧ (findS fr l).1 ∈ l ∧ (findS fr l).1.lo ≤ fr ∧ fr ≤ (findS fr l).1.hi) ∨ ((findS fr l).2 = false ∧ ¬inSp l fr) := by
 cases h : (findS fr l).2
 ·right
  refine ⟨rfl, ?_⟩
  rintro ⟨s, hs, h1, h2⟩
  have := findP_any (fun s : Sp => inR fr s.lo s.hi) ⟨0, 0⟩ l
  unfold findS at h
  rw [h] at this
  have h3 := List.any_eq_false.1 this.symm s hs
  simp [inR] at h3; omega
 ·left
  obtain ⟨h1, h2⟩ := findP_mem h
  have h3 : inR fr (findS fr l).1.lo (findS fr l).1.hi = true := h2
  rw [inR, Bool.and_eq_true, decide_eq_true_eq, decide_eq_true_eq] at h3
  exact ⟨rfl, h1, h3.1, h3.2⟩
theorem shut_spec {p : Pl} (hN : NF p.opn) (fr : Int) : fr ≤ shutP p fr ∧ ¬inSp p.opn (shutP p fr) ∧ ∀ m, fr ≤ m → m < shutP p fr → inSp p.opn m := by
 unfold shutP
 rcases findS_spec fr p.opn with ⟨h1, h2, h3, h4⟩ | ⟨h1, h2⟩
 ·rw [if_pos h1]
  refine ⟨by omega, ?_, fun m hm hm2 => ⟨_, h2, by omega, by omega⟩⟩
  rintro ⟨t, ht, h5, h6⟩
  rcases NF_apart hN _ h2 t ht with h | h | h
  ·rw [← h] at h6; omega
  ·omega
  ·omega
 ·rw [h1, if_neg (by simp)]
  exact ⟨by omega, h2, fun m _ _ => by omega⟩
theorem place_NF {l : Lb} (hV : LibV l) (c : Cm) (s : Sv) : NF (placeP l c s).opn := by
 show NF (if c.locked then spansOf (opensP l c s) else [⟨0, 9999⟩])
 split
 ·exact (spansOf_spec fun k hk => (hV.kb k (List.mem_filter.1 (List.mem_filter.1 hk).1).1).2.1).1
 ·exact ⟨show (0 : Int) ≤ 9999 by decide, fun t ht => (by cases ht), trivial⟩
theorem canP_iff (p : Pl) (fr : Int) : canP p fr = true ↔ p.miss = [] ∧ fr + p.mins ≤ shutP p fr := by
 unfold canP
 rw [Bool.and_eq_true, decide_eq_true_eq, beq_iff_eq]
 refine and_congr_left fun _ => ?_
 constructor
 ·intro h; exact List.eq_nil_of_length_eq_zero (by omega)
 ·intro h; rw [h]; rfl
theorem not_opens {l : Lb} {c : Cm} {s : Sv} {k : Ky} (hk : k ∈ keysP l c) (ho : opensP l c s = []) : (foreignP s.devs k).2 = true := by
 cases h : (foreignP s.devs k).2
 ·have : k ∈ opensP l c s := List.mem_filter.2 ⟨hk, by simp [opensK, h]⟩
  rw [ho] at this; cases this
 ·rfl
theorem minOf_mem {l : List Ky} (h : l ≠ []) : minOf l ∈ l := by
 cases l with
 | nil => exact absurd rfl h
 | cons x r =>
  rcases minK_mem r x with h | h
  ·show minK x r ∈ _; rw [h]; simp
  ·exact List.mem_cons_of_mem _ h
theorem Ready.V {l : Lb} {a : Ask} (h : Ready l a) : LibV l := libOK_V.1 (checkE_zero.1 h.chk).1
theorem Ready.B {l : Lb} {a : Ask} (h : Ready l a) : LbB l := h.near.B
theorem hwC (c : Cm) : writeCells (.agg [I64 0, I64 0, I64 0, I64 0, I64 0, .bool false, .sl [] .tight]) 0 [I64 c.id, I64 c.film, I64 c.tongue, I64 c.subs, I64 c.mins, .bool c.locked, encI c.assets] = some (encC c) := rfl
theorem hwV (c : Sv) : writeCells (.agg [I64 0, .sl [] .tight, .sl [] .tight]) 0 [I64 c.id, encI c.devs, encFs c.files] = some (encV c) := rfl
theorem whyP_ne {p : Pl} {m : Int} (h : canP p m = false) : ((whyP p m).1 != 0) = true := by
 unfold whyP
 rw [h]
 cases p.miss with
 | cons x r => rfl
 | nil =>
  simp only [Bool.false_eq_true, if_false]
  split
  ·rfl
  ·split <;> rfl
theorem whyP_eq {p : Pl} {m : Int} (h : canP p m = true) : (whyP p m).1 = 0 := by
 unfold whyP; rw [h]; rfl
def RS (p : Nat → Prop) (es : List AV) (sz : Nat) (v : AV) (bl : List Blk) : Prop :=
 (es = [] ∧ v = .sl [] .tight) ∨ (es ≠ [] ∧ ∃ id, ¬p id ∧ v = .ref id 0 es.length ∧ bl[id]? = some (.live es sz))
def Kept (p : Nat → Prop) (bl bl' : List Blk) : Prop := ∀ (id : Nat) b, ¬p id → bl[id]? = some b → bl'[id]? = some b
theorem Kept.refl (p : Nat → Prop) (bl : List Blk) : Kept p bl bl := fun _ _ _ h => h
theorem Kept.trans {p : Nat → Prop} {a b c : List Blk} (h : Kept p a b) (k : Kept p b c) : Kept p a c := fun id x hp hx => k id x hp (h id x hp hx)
theorem Kept.app (p : Nat → Prop) (bl x : List Blk) : Kept p bl (bl ++ x) := fun id b _ h => by
 rw [List.getElem?_append_left (List.getElem?_eq_some_iff.1 h).1]; exact h
theorem Kept.set {p : Nat → Prop} (bl : List Blk) {i : Nat} (hi : p i) (b : Blk) : Kept p bl (bl.set i b) := fun id x hp h => by
 have hne : i ≠ id := fun e => hp (by rw [← e]; exact hi)
 rw [List.getElem?_set_ne hne]; exact h
theorem RS.kept {p : Nat → Prop} {es : List AV} {sz : Nat} {v : AV} {bl bl' : List Blk} (h : RS p es sz v bl) (k : Kept p bl bl') : RS p es sz v bl' := by
 rcases h with h | ⟨h1, id, h2, h3, h4⟩
 ·exact .inl h
 ·exact .inr ⟨h1, id, h2, h3, k id _ h2 h4⟩
theorem RS.weak {p q : Nat → Prop} {es : List AV} {sz : Nat} {v : AV} {bl : List Blk} (h : RS p es sz v bl) (k : ∀ id, id < bl.length → q id → p id) : RS q es sz v bl := by
 rcases h with h | ⟨h1, id, h2, h3, h4⟩
 ·exact .inl h
 ·exact .inr ⟨h1, id, fun hq => h2 (k id (List.getElem?_eq_some_iff.1 h4).1 hq), h3, h4⟩
theorem RS.cells {p : Nat → Prop} {es : List AV} {sz : Nat} {v : AV} {bl : List Blk} (h : RS p es sz v bl) : v.cells = [v] ∧ v.solid = true ∧ v.isAgg = false := by
 rcases h with ⟨_, rfl⟩ | ⟨_, id, _, rfl, _⟩ <;> exact ⟨rfl, rfl, rfl⟩
theorem RS.snap {p : Nat → Prop} {es : List AV} {sz : Nat} {v : AV} {bl : List Blk} {tk : List (Nat × Nat)} (h : RS p es sz v bl) (k : Nat) : Ab.snap ⟨bl, tk⟩ (k + 1) v = .sl (es.map (Ab.snap ⟨bl, tk⟩ k)) .unk := by
 rcases h with ⟨rfl, rfl⟩ | ⟨h1, id, _, rfl, h4⟩
 ·rfl
 ·simp only [snap_ref, elems_ref, h4, elBlk_live]
  rw [if_pos (by omega), List.drop_zero, List.take_length]
  rfl
theorem RS.len {p : Nat → Prop} {es : List AV} {sz : Nat} {v : AV} {bl : List Blk} {tk : List (Nat × Nat)} (h : RS p es sz v bl) : lenAt ⟨bl, tk⟩ v = some (I64 (es.length : Int)) := by
 rcases h with ⟨rfl, rfl⟩ | ⟨h1, id, _, rfl, h4⟩
 ·rfl
 ·simp [lenAt, lsz, h4]
theorem app0_rs (es : List AV) (sz bytes : Nat) (tk : Tk) (bl : List Blk) (toks : List (Nat × Nat)) (hs : hdSz es sz = true) (hl : es.length * (bytes + 1) ≤ limit) :
  ∃ v x, append0 ⟨bl, toks⟩ (.sl [] .tight) (.sl es tk) sz bytes = some (v, ⟨bl ++ x, toks⟩) ∧ RS (fun id => id < bl.length) es sz v (bl ++ x) := by
 by_cases he : es = []
 ·subst he
  exact ⟨.sl [] .tight, [], by simp [append0, Mem.elems], .inl ⟨rfl, rfl⟩⟩
 ·refine ⟨.ref bl.length 0 es.length, [.live es sz], ?_, .inr ⟨he, bl.length, by omega, rfl, by simp⟩⟩
  simp only [append0, Mem.elems]
  rw [if_pos ⟨⟨hl, hs⟩, he⟩]
  rfl
theorem app0_ints (l : List Int) (bl : List Blk) (toks : List (Nat × Nat)) (hl : l.length < 1073741824) :
  ∃ v x, append0 ⟨bl, toks⟩ (.sl [] .tight) (encI l) 1 8 = some (v, ⟨bl ++ x, toks⟩) ∧ RS (fun id => id < bl.length) (l.map fun n => I64 n) 1 v (bl ++ x) :=
 app0_rs _ _ _ _ _ _ (hdSz_map' (fun n : Int => I64 n) 1 l fun _ => rfl) (by simp only [List.length_map, limit]; omega)
theorem app0_files (l : List Fl) (bl : List Blk) (toks : List (Nat × Nat)) (hl : l.length < 1073741824) :
  ∃ v x, append0 ⟨bl, toks⟩ (.sl [] .tight) (encFs l) 2 16 = some (v, ⟨bl ++ x, toks⟩) ∧ RS (fun id => id < bl.length) (l.map encF) 2 v (bl ++ x) :=
 app0_rs _ _ _ _ _ _ (hdSz_map' encF 2 l fun _ => rfl) (by simp only [List.length_map, limit]; omega)
theorem rs_app {p : Nat → Prop} {es : List AV} {sz : Nat} {v : AV} {bl : List Blk} (h : RS p es sz v bl) (e : AV) (T bytes : Nat) (he : e.cells.length = sz) (hl : (es.length + 1) * (bytes + 1) ≤ limit) {id2 : Nat} (hb : bl[id2]? = some (.live [e] sz)) :
  ∃ bl', appendAt ⟨bl, []⟩ true v (.ref id2 0 1) T sz bytes = some (.ref bl.length 0 (es.length + 1), ⟨bl', []⟩) ∧ bl'[bl.length]? = some (.live (es ++ [e]) sz) ∧ bl'.length = bl.length + 1 ∧
   ∀ (id : Nat) b, (∀ n, v ≠ .ref id 0 n) → bl[id]? = some b → bl'[id]? = some b := by
 have hel : (⟨bl, []⟩ : Mem).elems (.ref id2 0 1) = some [e] := by simp [Mem.elems, hb]
 have hh : hdSz [e] sz = true := by simp [hdSz, he]
 rcases h with ⟨rfl, rfl⟩ | ⟨h1, id, _, rfl, h4⟩
 ·refine ⟨bl ++ [.live [e] sz], ?_, by simp, by simp, fun i b _ hi => get_app1 hi _⟩
  simp only [appendAt, hel, hh]
  rw [if_neg (by simp), if_pos ⟨by simpa using hl, rfl⟩]
  simp [newBlk]
 ·refine ⟨bl.set id .dead ++ [.live (es ++ [e]) sz], ?_, by simp, by simp, fun i b hne hi => ?_⟩
  ·simp only [appendAt, hel, hh, h4]
   rw [if_neg (by simp), if_neg (by simp), if_neg (by simp), if_pos ⟨⟨trivial, trivial⟩, hl⟩]
   simp
  ·refine get_app1 ?_ _
   rw [List.getElem?_set_ne (fun e => hne _ (by rw [e]))]; exact hi
def Al2 {α : Type} (R : α → AV → Prop) : List α → List AV → Prop
 | [], [] => True
 | x :: xs, e :: es => R x e ∧ Al2 R xs es
 | _, _ => False
theorem Al2.snoc {α : Type} {R : α → AV → Prop} {x : α} {e : AV} (hx : R x e) : ∀ {xs : List α} {es : List AV}, Al2 R xs es → Al2 R (xs ++ [x]) (es ++ [e])
 | [], [], _ => ⟨hx, trivial⟩
 | [], _ :: _, h => h.elim
 | _ :: _, [], h => h.elim
 | y :: xs, f :: es, h => ⟨h.1, Al2.snoc hx h.2⟩
theorem Al2.mono {α : Type} {R R' : α → AV → Prop} (hR : ∀ x e, R x e → R' x e) : ∀ {xs : List α} {es : List AV}, Al2 R xs es → Al2 R' xs es
 | [], [], _ => trivial
 | [], _ :: _, h => h.elim
 | _ :: _, [], h => h.elim
 | y :: xs, f :: es, h => ⟨hR _ _ h.1, Al2.mono hR h.2⟩
theorem Al2.len {α : Type} {R : α → AV → Prop} : ∀ {xs : List α} {es : List AV}, Al2 R xs es → es.length = xs.length
 | [], [], _ => rfl
 | [], _ :: _, h => h.elim
 | _ :: _, [], h => h.elim
 | y :: xs, f :: es, h => by simp [Al2.len h.2]
theorem Al2.map {α : Type} {R : α → AV → Prop} {f : AV → AV} {g : α → AV} (hf : ∀ x e, R x e → f e = g x) : ∀ {xs : List α} {es : List AV}, Al2 R xs es → es.map f = xs.map g
 | [], [], _ => rfl
 | [], _ :: _, h => h.elim
 | _ :: _, [], h => h.elim
 | y :: xs, e :: es, h => by simp only [List.map_cons, hf _ _ h.1, Al2.map hf h.2]
def KeyR (p : Nat → Prop) (bl : List Blk) (k : Ky) (e : AV) : Prop := ∃ v, e = .agg [I64 k.id, I64 k.comp, v, I64 k.fr, I64 k.to] ∧ RS p (k.devs.map fun n => I64 n) 1 v bl
def CompR (p : Nat → Prop) (bl : List Blk) (c : Cm) (e : AV) : Prop := ∃ v, e = .agg [I64 c.id, I64 c.film, I64 c.tongue, I64 c.subs, I64 c.mins, .bool c.locked, v] ∧ RS p (c.assets.map fun n => I64 n) 1 v bl
def ServR (p : Nat → Prop) (bl : List Blk) (s : Sv) (e : AV) : Prop := ∃ v w, e = .agg [I64 s.id, v, w] ∧ RS p (s.devs.map fun n => I64 n) 1 v bl ∧ RS p (s.files.map encF) 2 w bl
theorem KeyR.kept {p : Nat → Prop} {bl bl' : List Blk} (k : Kept p bl bl') (x : Ky) (e : AV) (h : KeyR p bl x e) : KeyR p bl' x e := let ⟨v, h1, h2⟩ := h; ⟨v, h1, h2.kept k⟩
theorem CompR.kept {p : Nat → Prop} {bl bl' : List Blk} (k : Kept p bl bl') (x : Cm) (e : AV) (h : CompR p bl x e) : CompR p bl' x e := let ⟨v, h1, h2⟩ := h; ⟨v, h1, h2.kept k⟩
theorem ServR.kept {p : Nat → Prop} {bl bl' : List Blk} (k : Kept p bl bl') (x : Sv) (e : AV) (h : ServR p bl x e) : ServR p bl' x e := let ⟨v, w, h1, h2, h3⟩ := h; ⟨v, w, h1, h2.kept k, h3.kept k⟩
theorem KeyR.weak {p q : Nat → Prop} {bl : List Blk} (k : ∀ id, id < bl.length → q id → p id) (x : Ky) (e : AV) (h : KeyR p bl x e) : KeyR q bl x e := let ⟨v, h1, h2⟩ := h; ⟨v, h1, h2.weak k⟩
theorem CompR.weak {p q : Nat → Prop} {bl : List Blk} (k : ∀ id, id < bl.length → q id → p id) (x : Cm) (e : AV) (h : CompR p bl x e) : CompR q bl x e := let ⟨v, h1, h2⟩ := h; ⟨v, h1, h2.weak k⟩
theorem ServR.weak {p q : Nat → Prop} {bl : List Blk} (k : ∀ id, id < bl.length → q id → p id) (x : Sv) (e : AV) (h : ServR p bl x e) : ServR q bl x e := let ⟨v, w, h1, h2, h3⟩ := h; ⟨v, w, h1, h2.weak k, h3.weak k⟩
theorem KeyR.cells {p : Nat → Prop} {bl : List Blk} {x : Ky} {e : AV} (h : KeyR p bl x e) : e.cells.length = 5 := by obtain ⟨v, rfl, _⟩ := h; rfl
theorem CompR.cells {p : Nat → Prop} {bl : List Blk} {x : Cm} {e : AV} (h : CompR p bl x e) : e.cells.length = 7 := by obtain ⟨v, rfl, _⟩ := h; rfl
theorem ServR.cells {p : Nat → Prop} {bl : List Blk} {x : Sv} {e : AV} (h : ServR p bl x e) : e.cells.length = 3 := by obtain ⟨v, w, rfl, _⟩ := h; rfl
theorem ints_snap (m : Mem) (k : Nat) (l : List Int) : (l.map fun n => I64 n).map (snap m (k + 1)) = l.map fun n => I64 n := by rw [List.map_map]; rfl
theorem files_snap (m : Mem) (k : Nat) (l : List Fl) : (l.map encF).map (snap m (k + 2)) = l.map encF := by rw [List.map_map]; rfl
theorem KeyR.snap {p : Nat → Prop} {bl : List Blk} {tk : List (Nat × Nat)} (q : Nat) (x : Ky) (e : AV) (h : KeyR p bl x e) : Ab.snap ⟨bl, tk⟩ (q + 3) e = encK x := by
 obtain ⟨v, rfl, h2⟩ := h
 simp only [snap_agg, List.map_cons, List.map_nil, snap_int, h2.snap, ints_snap]; rfl
theorem CompR.snap {p : Nat → Prop} {bl : List Blk} {tk : List (Nat × Nat)} (q : Nat) (x : Cm) (e : AV) (h : CompR p bl x e) : Ab.snap ⟨bl, tk⟩ (q + 3) e = encC x := by
 obtain ⟨v, rfl, h2⟩ := h
 simp only [snap_agg, List.map_cons, List.map_nil, snap_int, snap_bool, h2.snap, ints_snap]; rfl
theorem ServR.snap {p : Nat → Prop} {bl : List Blk} {tk : List (Nat × Nat)} (q : Nat) (x : Sv) (e : AV) (h : ServR p bl x e) : Ab.snap ⟨bl, tk⟩ (q + 4) e = encV x := by
 obtain ⟨v, w, rfl, h2, h3⟩ := h
 simp only [snap_agg, List.map_cons, List.map_nil, snap_int, h2.snap, h3.snap, ints_snap, files_snap]; rfl
def LibR (p : Nat → Prop) (bl : List Blk) (l : Lb) (A C V Y R : AV) : Prop :=
 RS p (l.assets.map encF) 2 A bl ∧ (∃ es, RS p es 7 C bl ∧ Al2 (CompR p bl) l.comps es) ∧ (∃ es, RS p es 3 V bl ∧ Al2 (ServR p bl) l.screens es) ∧ (∃ es, RS p es 5 Y bl ∧ Al2 (KeyR p bl) l.keys es) ∧ RS p (l.recalled.map fun n => I64 n) 1 R bl
theorem LibR.snap {p : Nat → Prop} {bl : List Blk} {tk : List (Nat × Nat)} {l : Lb} {A C V Y R : AV} (h : LibR p bl l A C V Y R) (q : Nat) : Ab.snap ⟨bl, tk⟩ (q + 6) (.agg [A, C, V, Y, R]) = encL l := by
 obtain ⟨h1, ⟨es, h2, h3⟩, ⟨fs, h4, h5⟩, ⟨gs, h6, h7⟩, h8⟩ := h
 simp only [snap_agg, List.map_cons, List.map_nil, h1.snap, h2.snap, h4.snap, h6.snap, h8.snap, ints_snap, files_snap,
  Al2.map (fun x e => CompR.snap (q + 1) x e) h3, Al2.map (fun x e => ServR.snap q x e) h5, Al2.map (fun x e => KeyR.snap (q + 1) x e) h7]
 rfl
def zK : AV := .agg [.int .i64 0, .int .i64 0, .sl [] .tight, .int .i64 0, .int .i64 0]
theorem CopyKey_run (k : Ky) (hk : k.devs.length < 1073741824) : WR ft (.f 17) [encK k] .nil fun v m => ∃ bl, m = ⟨bl, []⟩ ∧ KeyR (fun _ => False) bl k v := by
 rw [WR_f ft17 rfl]
 simp only [c17, r17]
 obtain ⟨v, x, hv, hr⟩ := app0_ints k.devs [.live [encK k] 5, .live [zK] 5] [] hk
 obtain ⟨c1, c2, c3⟩ := hr.cells
 have hw : writeCells (encK k) 2 [v] = some (.agg [I64 k.id, I64 k.comp, v, I64 k.fr, I64 k.to]) := rfl
 have hw2 : writeCells zK 0 [I64 k.id, I64 k.comp, v, I64 k.fr, I64 k.to] = some (.agg [I64 k.id, I64 k.comp, v, I64 k.fr, I64 k.to]) := rfl
 simp only [zK] at hv hr hw2
 simp only [go_sem, Nat.reduceEqDiff, Nat.reduceAdd, Nat.reduceLT, Nat.reduceLeDiff, reduceIte, KyCells, hv, c1, c2, c3, hw, hw2]
 refine ⟨_, rfl, v, rfl, (hr.kept (bl' := .live [.agg [I64 k.id, I64 k.comp, v, I64 k.fr, I64 k.to]] 5 :: .live [.agg [I64 k.id, I64 k.comp, v, I64 k.fr, I64 k.to]] 5 :: x) ?_).weak fun _ _ h => h.elim⟩
 intro id b hp hb
 match id, hp with
 | 0, hp => exact absurd (by simp) hp
 | 1, hp => exact absurd (by simp) hp
 | n + 2, _ => exact hb
theorem RS.shift {es : List AV} {sz : Nat} {v : AV} {b0 : List Blk} (h : RS (fun _ => False) es sz v b0) (bl : List Blk) (k : Nat) :
  RS (fun id => id < bl.length) (es.map (Ab.shift bl.length 0 9)) sz (Ab.shift bl.length 0 (k + 1) v) (bl ++ b0.map (shiftB bl.length 0 9)) := by
 rcases h with ⟨rfl, rfl⟩ | ⟨h1, id, _, rfl, h4⟩
 ·exact .inl ⟨rfl, rfl⟩
 ·refine .inr ⟨by simpa using h1, bl.length + id, by omega, by simp only [List.length_map]; rfl, ?_⟩
  rw [List.getElem?_append_right (by omega), Nat.add_sub_cancel_left, List.getElem?_map, h4]; rfl
theorem ints_shift (n t k : Nat) (l : List Int) : (l.map fun n => I64 n).map (Ab.shift n t (k + 1)) = l.map fun n => I64 n := by rw [List.map_map]; rfl
theorem files_shift (n t k : Nat) (l : List Fl) : (l.map encF).map (Ab.shift n t (k + 2)) = l.map encF := by rw [List.map_map]; rfl
theorem KeyR.shift {x : Ky} {e : AV} {b0 : List Blk} (h : KeyR (fun _ => False) b0 x e) (bl : List Blk) (k : Nat) : KeyR (fun id => id < bl.length) (bl ++ b0.map (shiftB bl.length 0 9)) x (Ab.shift bl.length 0 (k + 2) e) := by
 obtain ⟨v, rfl, h2⟩ := h
 have := h2.shift bl k
 rw [ints_shift] at this
 exact ⟨_, rfl, this⟩
theorem CompR.shift {x : Cm} {e : AV} {b0 : List Blk} (h : CompR (fun _ => False) b0 x e) (bl : List Blk) (k : Nat) : CompR (fun id => id < bl.length) (bl ++ b0.map (shiftB bl.length 0 9)) x (Ab.shift bl.length 0 (k + 2) e) := by
 obtain ⟨v, rfl, h2⟩ := h
 have := h2.shift bl k
 rw [ints_shift] at this
 exact ⟨_, rfl, this⟩
theorem ServR.shift {x : Sv} {e : AV} {b0 : List Blk} (h : ServR (fun _ => False) b0 x e) (bl : List Blk) (k : Nat) : ServR (fun id => id < bl.length) (bl ++ b0.map (shiftB bl.length 0 9)) x (Ab.shift bl.length 0 (k + 2) e) := by
 obtain ⟨v, w, rfl, h2, h3⟩ := h
 have a := h2.shift bl k
 have b := h3.shift bl k
 rw [ints_shift] at a
 rw [files_shift] at b
 exact ⟨_, _, rfl, a, b⟩
theorem Al2.mapR {α : Type} {R R' : α → AV → Prop} {f : AV → AV} (hR : ∀ x e, R x e → R' x (f e)) : ∀ {xs : List α} {es : List AV}, Al2 R xs es → Al2 R' xs (es.map f)
 | [], [], _ => trivial
 | [], _ :: _, h => h.elim
 | _ :: _, [], h => h.elim
 | y :: xs, e :: es, h => ⟨hR _ _ h.1, Al2.mapR hR h.2⟩
theorem LibR.shift {l : Lb} {A C V Y R : AV} {b0 : List Blk} (h : LibR (fun _ => False) b0 l A C V Y R) (bl : List Blk) (k : Nat) :
  LibR (fun id => id < bl.length) (bl ++ b0.map (shiftB bl.length 0 9)) l (Ab.shift bl.length 0 (k + 1) A) (Ab.shift bl.length 0 (k + 1) C) (Ab.shift bl.length 0 (k + 1) V) (Ab.shift bl.length 0 (k + 1) Y) (Ab.shift bl.length 0 (k + 1) R) := by
 obtain ⟨h1, ⟨es, h2, h3⟩, ⟨fs, h4, h5⟩, ⟨gs, h6, h7⟩, h8⟩ := h
 have a := h1.shift bl k
 have b := h8.shift bl k
 rw [files_shift] at a
 rw [ints_shift] at b
 exact ⟨a, ⟨_, h2.shift bl k, h3.mapR fun x e h => h.shift bl 7⟩, ⟨_, h4.shift bl k, h5.mapR fun x e h => h.shift bl 7⟩, ⟨_, h6.shift bl k, h7.mapR fun x e h => h.shift bl 7⟩, b⟩
def Stp (p q : Nat → Prop) (bl bl' : List Blk) : Prop := ∀ (id : Nat) b, ¬p id → bl[id]? = some b → ¬q id ∧ bl'[id]? = some b
theorem Kept.stp {p q : Nat → Prop} {bl bl' : List Blk} (k : Kept p bl bl') (hq : ∀ id, id < bl.length → q id → p id) : Stp p q bl bl' := fun id b hp hb => ⟨fun h => hp (hq id (List.getElem?_eq_some_iff.1 hb).1 h), k id b hp hb⟩
theorem RS.stp {p q : Nat → Prop} {es : List AV} {sz : Nat} {v : AV} {bl bl' : List Blk} (h : RS p es sz v bl) (k : Stp p q bl bl') : RS q es sz v bl' := by
 rcases h with h | ⟨h1, id, h2, h3, h4⟩
 ·exact .inl h
 ·exact .inr ⟨h1, id, (k id _ h2 h4).1, h3, (k id _ h2 h4).2⟩
theorem KeyR.stp {p q : Nat → Prop} {bl bl' : List Blk} (k : Stp p q bl bl') (x : Ky) (e : AV) (h : KeyR p bl x e) : KeyR q bl' x e := let ⟨v, h1, h2⟩ := h; ⟨v, h1, h2.stp k⟩
theorem CompR.stp {p q : Nat → Prop} {bl bl' : List Blk} (k : Stp p q bl bl') (x : Cm) (e : AV) (h : CompR p bl x e) : CompR q bl' x e := let ⟨v, h1, h2⟩ := h; ⟨v, h1, h2.stp k⟩
theorem ServR.stp {p q : Nat → Prop} {bl bl' : List Blk} (k : Stp p q bl bl') (x : Sv) (e : AV) (h : ServR p bl x e) : ServR q bl' x e := let ⟨v, w, h1, h2, h3⟩ := h; ⟨v, w, h1, h2.stp k, h3.stp k⟩
theorem LibR.stp {p q : Nat → Prop} {bl bl' : List Blk} {l : Lb} {A C V Y R : AV} (k : Stp p q bl bl') (h : LibR p bl l A C V Y R) : LibR q bl' l A C V Y R := by
 obtain ⟨h1, ⟨es, h2, h3⟩, ⟨fs, h4, h5⟩, ⟨gs, h6, h7⟩, h8⟩ := h
 exact ⟨h1.stp k, ⟨es, h2.stp k, h3.mono (CompR.stp k)⟩, ⟨fs, h4.stp k, h5.mono (ServR.stp k)⟩, ⟨gs, h6.stp k, h7.mono (KeyR.stp k)⟩, h8.stp k⟩
theorem set_mid (l x : List Blk) (a b : Blk) : (l ++ [a] ++ x).set l.length b = l ++ [b] ++ x := by simp
theorem get_mid (l x : List Blk) (a : Blk) : (l ++ [a] ++ x)[l.length]? = some a := by simp
theorem get_apps {bl : List Blk} {i : Nat} {b : Blk} (h : bl[i]? = some b) (x : List Blk) : (bl ++ x)[i]? = some b := by
 rw [List.getElem?_append_left (List.getElem?_eq_some_iff.1 h).1]; exact h
def Bo (o : Nat) (id : Nat) : Prop := id = 0 ∨ id = 1 ∨ id = o
def Po (o : Nat) (X : AV) (id : Nat) : Prop := Bo o id ∨ ∃ n, X = .ref id 0 n
def Qo (o : Nat) (X : AV) (id : Nat) : Prop := id ≤ o ∨ ∃ n, X = .ref id 0 n
def zL : AV := .agg [.sl [] .tight, .sl [] .tight, .sl [] .tight, .sl [] .tight, .sl [] .tight]
structure Cb (o : Nat) (l : Lb) (A C V Y R : AV) (bl : List Blk) : Prop where
 h0 : bl[0]? = some (.live [encL l] 5)
 h1 : bl[1]? = some (.live [zL] 5)
 ho : bl[o]? = some (.live [.agg [A, C, V, Y, R]] 5)
 lt : 1 < o
def Cur {α : Type} (o sz : Nat) (Rel : (Nat → Prop) → List Blk → α → AV → Prop) (xs : List α) (X : AV) (bl : List Blk) : Prop := ∃ es, RS (fun id => id ≤ o) es sz X bl ∧ Al2 (Rel (Qo o X) bl) xs es
theorem RS.id_lt {p : Nat → Prop} {es : List AV} {sz : Nat} {v : AV} {bl : List Blk} (h : RS p es sz v bl) {id n : Nat} (e : v = .ref id 0 n) : id < bl.length := by
 rcases h with ⟨_, rfl⟩ | ⟨_, id', _, rfl, h4⟩
 ·cases e
 ·cases e; exact (List.getElem?_eq_some_iff.1 h4).1
theorem cur_step {α : Type} {Rel : (Nat → Prop) → List Blk → α → AV → Prop} (hR : ∀ {p q : Nat → Prop} {b b' : List Blk}, Stp p q b b' → ∀ x e, Rel p b x e → Rel q b' x e)
  {o sz : Nat} {xs : List α} {X : AV} {bl : List Blk} (hc : Cur o sz Rel xs X bl) (h1o : 1 < o) (hob : o < bl.length) (z : List Blk) (x : α) (e : AV) (he : Rel (fun id => id < bl.length) (bl ++ z) x e) (hcl : e.cells.length = sz) (T bytes : Nat) (hlim : (xs.length + 1) * (bytes + 1) ≤ limit) :
  ∃ X' bl3, appendAt ⟨bl ++ z ++ [.live [e] sz], []⟩ true X (.ref (bl ++ z).length 0 1) T sz bytes = some (X', ⟨bl3, []⟩) ∧ (X'.cells = [X'] ∧ X'.solid = true ∧ X'.isAgg = false) ∧ bl3[o]? = bl[o]? ∧
   ∀ b', Cur o sz Rel (xs ++ [x]) X' (bl3.set o b') ∧ Stp (Po o X) (Po o X') bl (bl3.set o b') ∧ Stp (Qo o X) (Qo o X') bl (bl3.set o b') ∧ (bl3.set o b')[o]? = some b' ∧ (bl3.set o b')[0]? = bl[0]? ∧ (bl3.set o b')[1]? = bl[1]? := by
 obtain ⟨es, hs, ha⟩ := hc
 have hlen := ha.len
 have hX : ∀ n, X ≠ .ref o 0 n := fun n e => by
  rcases hs with ⟨_, rfl⟩ | ⟨_, id', h, rfl, _⟩
  ·cases e
  ·cases e; exact h (Nat.le_refl _)
 have hX0 : ∀ i n, i ≤ 1 → X ≠ .ref i 0 n := fun i n hi e => by
  rcases hs with ⟨_, rfl⟩ | ⟨_, id', h, rfl, _⟩
  ·cases e
  ·cases e; exact h (by omega)
 have hs2 : RS (fun id => id ≤ o) es sz X (bl ++ z ++ [.live [e] sz]) := (hs.kept (Kept.app _ _ _)).kept (Kept.app _ _ _)
 obtain ⟨bl3, h3, h4, h5, h6⟩ := rs_app hs2 e T bytes hcl (by rw [hlen]; exact hlim) (id2 := (bl ++ z).length) (get_last _ _)
 have hL : (bl ++ z ++ [Blk.live [e] sz]).length = bl.length + z.length + 1 := by simp only [List.length_append, List.length_singleton]
 have old : ∀ (i : Nat) b, (∀ n, X ≠ .ref i 0 n) → bl[i]? = some b → bl3[i]? = some b := fun i b hi hb => h6 i b hi (get_apps (get_apps hb _) _)
 have oldz : ∀ (i : Nat) b, (∀ n, X ≠ .ref i 0 n) → (bl ++ z)[i]? = some b → bl3[i]? = some b := fun i b hi hb => h6 i b hi (get_apps hb _)
 refine ⟨_, bl3, h3, ⟨rfl, rfl, rfl⟩, ?_, fun b' => ?_⟩
 ·obtain ⟨b, hb⟩ : ∃ b, bl[o]? = some b := ⟨_, List.getElem?_eq_getElem hob⟩
  rw [hb]; exact old o b hX hb
 have s1 : Stp (Po o X) (Po o (.ref (bl ++ z ++ [Blk.live [e] sz]).length 0 (es.length + 1))) bl (bl3.set o b') := fun i b hp hb => by
  have hlt := (List.getElem?_eq_some_iff.1 hb).1
  have hio : o ≠ i := fun e => hp (.inl (.inr (.inr e.symm)))
  refine ⟨fun hq => ?_, ?_⟩
  ·rcases hq with hq | ⟨n, hq⟩
   ·exact hp (.inl hq)
   ·cases hq; omega
  ·rw [List.getElem?_set_ne hio]; exact old i b (fun n e => hp (.inr ⟨n, e⟩)) hb
 have s1q : Stp (Qo o X) (Qo o (.ref (bl ++ z ++ [Blk.live [e] sz]).length 0 (es.length + 1))) bl (bl3.set o b') := fun i b hp hb => by
  have hlt := (List.getElem?_eq_some_iff.1 hb).1
  refine ⟨?_, (s1 i b ?_ hb).2⟩
  ·rintro (h | ⟨n, h⟩)
   ·exact hp (.inl h)
   ·cases h; omega
  ·rintro (h | h)
   ·exact hp (.inl (by rcases h with h | h | h <;> omega))
   ·exact hp (.inr h)
 have s2 : Stp (fun id => id < bl.length) (Qo o (.ref (bl ++ z ++ [Blk.live [e] sz]).length 0 (es.length + 1))) (bl ++ z) (bl3.set o b') := fun i b hp hb => by
  have hlt := (List.getElem?_eq_some_iff.1 hb).1
  rw [List.length_append] at hlt
  have hio : o ≠ i := fun e => hp (e ▸ hob)
  refine ⟨fun hq => ?_, ?_⟩
  ·rcases hq with hq | ⟨n, hq⟩
   ·exact hp (by dsimp only; omega)
   ·cases hq; omega
  ·rw [List.getElem?_set_ne hio]; exact oldz i b (fun n e => hp (hs.id_lt e)) hb
 have hne : o ≠ (bl ++ z ++ [Blk.live [e] sz]).length := by omega
 have ho3 : o < bl3.length := by omega
 refine ⟨⟨es ++ [e], .inr ⟨by simp, (bl ++ z ++ [Blk.live [e] sz]).length, ?_, by rw [List.length_append (as := es)]; rfl, ?_⟩, Al2.snoc (hR s2 x e he) (ha.mono (hR s1q))⟩, s1, s1q, List.getElem?_set_self ho3, ?_, ?_⟩
 ·dsimp only; omega
 ·rw [List.getElem?_set_ne hne]; exact h4
 ·rw [List.getElem?_set_ne (by omega)]
  obtain ⟨b, hb⟩ : ∃ b, bl[0]? = some b := ⟨_, List.getElem?_eq_getElem (by omega)⟩
  rw [hb]; exact old 0 b (fun n => hX0 0 n (by omega)) hb
 ·rw [List.getElem?_set_ne (by omega)]
  obtain ⟨b, hb⟩ : ∃ b, bl[1]? = some b := ⟨_, List.getElem?_eq_getElem (by omega)⟩
  rw [hb]; exact old 1 b (fun n => hX0 1 n (by omega)) hb
theorem Cur.nil {α : Type} {Rel : (Nat → Prop) → List Blk → α → AV → Prop} (o sz : Nat) (bl : List Blk) : Cur o sz Rel [] (.sl [] .tight) bl := ⟨[], .inl ⟨rfl, rfl⟩, trivial⟩
theorem set_mid2 (l x y : List Blk) (a b : Blk) : (l ++ [a] ++ x ++ y).set l.length b = l ++ [b] ++ x ++ y := by simp
theorem get_mid2 (l x y : List Blk) (a : Blk) : (l ++ [a] ++ x ++ y)[l.length]? = some a := by simp
theorem stp_mid (bl z1 : List Blk) (a b : Blk) : Stp (fun id => id < (bl ++ [a]).length) (fun id => id < bl.length) (bl ++ [a] ++ z1) (bl ++ ([b] ++ z1)) := by
 intro id c hp hc
 have hl : (bl ++ [a]).length = bl.length + 1 := by simp
 have hp' : bl.length + 1 ≤ id := by dsimp only at hp; omega
 refine ⟨by dsimp only; omega, ?_⟩
 rw [List.getElem?_append_right (by omega), hl] at hc
 rw [List.getElem?_append_right (by omega), List.getElem?_append_right (by simp; omega), ← hc]
 congr 1
theorem take_snoc {α : Type} {l : List α} {k : Nat} {x : α} (h : l[k]? = some x) : l.take (k + 1) = l.take k ++ [x] := by
 rw [List.take_add_one, h]; rfl
def LibD (bl : List Blk) (l : Lb) (A C V Y R : AV) : Prop := LibR (fun _ => False) bl l A C V Y R ∧
 (∀ (id n : Nat), Y = .ref id 0 n → LibR (fun i => i = id) bl ⟨l.assets, l.comps, l.screens, [], l.recalled⟩ A C V (.sl [] .tight) R) ∧
 (∀ (id n : Nat), R = .ref id 0 n → LibR (fun i => i = id) bl ⟨l.assets, l.comps, l.screens, l.keys, []⟩ A C V Y (.sl [] .tight))
theorem RS.ne {p q : Nat → Prop} {es es' : List AV} {sz sz' : Nat} {v v' : AV} {bl : List Blk} (h : RS p es sz v bl) (h' : RS q es' sz' v' bl) (hne : sz ≠ sz') {id n : Nat} (e : v' = .ref id 0 n) : RS (fun i => i = id) es sz v bl := by
 rcases h with h | ⟨h1, id1, h2, h3, h4⟩
 ·exact .inl h
 ·refine .inr ⟨h1, id1, fun hc => ?_, h3, h4⟩
  rcases h' with ⟨_, rfl⟩ | ⟨_, id2, _, rfl, g4⟩
  ·cases e
  ·cases e; dsimp only at hc; subst hc; rw [h4] at g4; cases g4; exact hne rfl
theorem Copy_run (l : Lb) (hl : LbB l) : WR ft (.f 16) [encL l] .nil fun v m => ∃ bl A C V Y R, m = ⟨bl, []⟩ ∧ v = .agg [A, C, V, Y, R] ∧ LibD bl l A C V Y R := by
 rw [WR_f ft16 rfl]
 simp only [c16, r16]
 obtain ⟨A, x, hA, rA⟩ := app0_files l.assets [.live [encL l] 5, .live [zL] 5] [] hl.as
 obtain ⟨a1, a2, a3⟩ := rA.cells
 obtain ⟨R, y, hR, rR⟩ := app0_ints l.recalled (.live [encL l] 5 :: .live [zL] 5 :: x) [] hl.rs
 obtain ⟨b1, b2, b3⟩ := rR.cells
 simp only [zL] at hA hR
 simp only [go_sem, Nat.reduceEqDiff, Nat.reduceAdd, Nat.reduceLT, Nat.reduceLeDiff, reduceIte, LbCells, Bool.and_self, true_and, hA, hR, a1, a2, a3, b1, b2, b3]
 obtain ⟨o, ho⟩ : ∃ o, o = (x ++ y).length + 1 + 1 := ⟨_, rfl⟩
 rw [← ho]
 obtain ⟨bl0, hbl0⟩ : ∃ bl0, bl0 = Blk.live [encL l] 5 :: Blk.live [zL] 5 :: (x ++ y ++ [Blk.live [AV.agg [A, AV.sl [] Tk.tight, AV.sl [] Tk.tight, AV.sl [] Tk.tight, R]] 5]) := ⟨_, rfl⟩
 have hC : Cb o l A (.sl [] .tight) (.sl [] .tight) (.sl [] .tight) R bl0 := by
  subst hbl0 ho
  exact ⟨rfl, rfl, get_last (x ++ y) _, by omega⟩
 have hLb : LibR (Bo o) bl0 ⟨l.assets, [], [], [], l.recalled⟩ A (.sl [] .tight) (.sl [] .tight) (.sl [] .tight) R := by
  refine ⟨rA.stp (Kept.stp ?_ ?_), ⟨[], .inl ⟨rfl, rfl⟩, trivial⟩, ⟨[], .inl ⟨rfl, rfl⟩, trivial⟩, ⟨[], .inl ⟨rfl, rfl⟩, trivial⟩, rR.stp (Kept.stp ?_ ?_)⟩
  ·rw [hbl0, show Blk.live [encL l] 5 :: Blk.live [zL] 5 :: (x ++ y ++ [Blk.live [AV.agg [A, AV.sl [] Tk.tight, AV.sl [] Tk.tight, AV.sl [] Tk.tight, R]] 5]) = ([Blk.live [encL l] 5, Blk.live [zL] 5] ++ x) ++ (y ++ [Blk.live [AV.agg [A, AV.sl [] Tk.tight, AV.sl [] Tk.tight, AV.sl [] Tk.tight, R]] 5]) by simp]
   exact Kept.app _ _ _
  ·rintro id h1 (h2 | h2 | h2) <;> simp at h1 ⊢ <;> simp at ho <;> omega
  ·rw [hbl0, show Blk.live [encL l] 5 :: Blk.live [zL] 5 :: (x ++ y ++ [Blk.live [AV.agg [A, AV.sl [] Tk.tight, AV.sl [] Tk.tight, AV.sl [] Tk.tight, R]] 5]) = (Blk.live [encL l] 5 :: Blk.live [zL] 5 :: x ++ y) ++ [Blk.live [AV.agg [A, AV.sl [] Tk.tight, AV.sl [] Tk.tight, AV.sl [] Tk.tight, R]] 5] by simp]
   exact Kept.app _ _ _
  ·rintro id h1 (h2 | h2 | h2) <;> simp at h1 ⊢ <;> simp at ho <;> omega
 have hRo : ∀ (id n : Nat), R = .ref id 0 n → id < o := fun id n e => by
  have := rR.id_lt e
  rw [ho]; simp at this ⊢; omega
 clear rA rR hA hR
 rw [show (AV.agg [AV.sl [] Tk.tight, AV.sl [] Tk.tight, AV.sl [] Tk.tight, AV.sl [] Tk.tight, AV.sl [] Tk.tight]) = zL from rfl, ← hbl0]
 clear hbl0 ho a1 a2 a3 b1 b2 b3
 refine WL_inv (α := Nat) (fun k e mm => e 1 = .ptr 0 0 0 ∧ e 2 = .ptr 1 0 0 ∧ e 3 = .ptr o 0 0 ∧ e 4 = I64 k ∧ k ≤ l.comps.length ∧ ∃ bl X, mm = ⟨bl, []⟩ ∧ Cb o l A X (.sl [] .tight) (.sl [] .tight) R bl ∧ LibR (Po o X) bl ⟨l.assets, [], [], [], l.recalled⟩ A (.sl [] .tight) (.sl [] .tight) (.sl [] .tight) R ∧ Cur o 7 CompR (l.comps.take k) X bl) (fun k => l.comps.length - k) 0 ?_ ?_
 ·simp only [go_sem, Nat.reduceEqDiff, Nat.reduceAdd, Nat.reduceLT, Nat.reduceLeDiff, reduceIte]
  refine ⟨trivial, trivial, trivial, rfl, by omega, bl0, _, rfl, hC, hLb.stp (Kept.stp (Kept.refl _ _) ?_), Cur.nil _ _ _⟩
  rintro id _ (h | ⟨n, h⟩)
  ·exact h
  ·cases h
 rintro k e m ⟨h1, h2, h3, h4, hk, bl, X, rfl, hb, hL, hc⟩
 by_cases hlt : k < l.comps.length
 case neg =>
  have hb0 := hb.h0
  simp only [go_sem, Nat.reduceEqDiff, Nat.reduceAdd, Nat.reduceLT, Nat.reduceLeDiff, reduceIte, h1, h2, h3, h4, hb0, LbCells, dec_ge (Nat.le_of_not_lt hlt)]
  have hke : k = l.comps.length := by omega
  rw [hke, List.take_length] at hc
  have hL2 : LibR (Bo o) bl ⟨l.assets, [], [], [], l.recalled⟩ A (.sl [] .tight) (.sl [] .tight) (.sl [] .tight) R := hL.stp (q := Bo o) (Kept.stp (Kept.refl _ bl) fun id _ h => .inl h)
  have hM2 : LibR (fun id => id ≤ o) bl ⟨[], l.comps, [], [], []⟩ (.sl [] .tight) X (.sl [] .tight) (.sl [] .tight) (.sl [] .tight) := by
   obtain ⟨es, r1, r2⟩ := hc
   exact ⟨.inl ⟨rfl, rfl⟩, ⟨es, r1, r2.mono (CompR.stp (Kept.stp (Kept.refl _ bl) fun id _ h => .inl h))⟩, ⟨[], .inl ⟨rfl, rfl⟩, trivial⟩, ⟨[], .inl ⟨rfl, rfl⟩, trivial⟩, .inl ⟨rfl, rfl⟩⟩
  obtain ⟨C, hCX⟩ : ∃ C, C = X := ⟨_, rfl⟩
  rw [← hCX] at hb hM2
  clear hL hc hCX hLb hC hke hk hlt hb0 h4
  refine WL_inv (α := Nat) (fun k e mm => e 1 = .ptr 0 0 0 ∧ e 2 = .ptr 1 0 0 ∧ e 3 = .ptr o 0 0 ∧ e 6 = I64 k ∧ k ≤ l.screens.length ∧ ∃ bl X, mm = ⟨bl, []⟩ ∧ Cb o l A C X (.sl [] .tight) R bl ∧ LibR (Po o X) bl ⟨l.assets, [], [], [], l.recalled⟩ A (.sl [] .tight) (.sl [] .tight) (.sl [] .tight) R ∧ LibR (Qo o X) bl ⟨[], l.comps, [], [], []⟩ (.sl [] .tight) C (.sl [] .tight) (.sl [] .tight) (.sl [] .tight) ∧ Cur o 3 ServR (l.screens.take k) X bl) (fun k => l.screens.length - k) 0 ?_ ?_
  ·simp only [go_sem, Nat.reduceEqDiff, Nat.reduceAdd, Nat.reduceLT, Nat.reduceLeDiff, reduceIte, h1, h2, h3]
   refine ⟨trivial, trivial, trivial, rfl, by omega, bl, _, rfl, hb, hL2.stp (Kept.stp (Kept.refl _ _) ?_), hM2.stp (Kept.stp (Kept.refl _ _) ?_), Cur.nil _ _ _⟩
   ·rintro id _ (h | ⟨n, h⟩)
    ·exact h
    ·cases h
   ·rintro id _ (h | ⟨n, h⟩)
    ·exact h
    ·cases h
  clear hb hL2 hM2 h1 h2 h3
  rintro k e m ⟨h1, h2, h3, h4, hk, bl, X, rfl, hb, hL, hM, hc⟩
  by_cases hlt : k < l.screens.length
  case neg =>
   have hb0 := hb.h0
   simp only [go_sem, Nat.reduceEqDiff, Nat.reduceAdd, Nat.reduceLT, Nat.reduceLeDiff, reduceIte, h1, h2, h3, h4, hb0, LbCells, dec_ge (Nat.le_of_not_lt hlt)]
   have hke : k = l.screens.length := by omega
   rw [hke, List.take_length] at hc
   have hL2 : LibR (Bo o) bl ⟨l.assets, [], [], [], l.recalled⟩ A (.sl [] .tight) (.sl [] .tight) (.sl [] .tight) R := hL.stp (q := Bo o) (Kept.stp (Kept.refl _ bl) fun id _ h => .inl h)
   have hM2 : LibR (fun id => id ≤ o) bl ⟨[], l.comps, l.screens, [], []⟩ (.sl [] .tight) C X (.sl [] .tight) (.sl [] .tight) := by
    have := hM.stp (q := fun id => id ≤ o) (Kept.stp (Kept.refl _ bl) fun id _ h => .inl h)
    obtain ⟨es, r1, r2⟩ := hc
    exact ⟨.inl ⟨rfl, rfl⟩, this.2.1, ⟨es, r1, r2.mono (ServR.stp (Kept.stp (Kept.refl _ bl) fun id _ h => .inl h))⟩, ⟨[], .inl ⟨rfl, rfl⟩, trivial⟩, .inl ⟨rfl, rfl⟩⟩
   obtain ⟨V, hVX⟩ : ∃ V, V = X := ⟨_, rfl⟩
   rw [← hVX] at hb hM2
   clear hL hM hc hVX hke hk hlt hb0 h4
   refine WL_inv (α := Nat) (fun k e mm => e 1 = .ptr 0 0 0 ∧ e 2 = .ptr 1 0 0 ∧ e 3 = .ptr o 0 0 ∧ e 8 = I64 k ∧ k ≤ l.keys.length ∧ ∃ bl X, mm = ⟨bl, []⟩ ∧ Cb o l A C V X R bl ∧ LibR (Po o X) bl ⟨l.assets, [], [], [], l.recalled⟩ A (.sl [] .tight) (.sl [] .tight) (.sl [] .tight) R ∧ LibR (Qo o X) bl ⟨[], l.comps, l.screens, [], []⟩ (.sl [] .tight) C V (.sl [] .tight) (.sl [] .tight) ∧ Cur o 5 KeyR (l.keys.take k) X bl) (fun k => l.keys.length - k) 0 ?_ ?_
   ·simp only [go_sem, Nat.reduceEqDiff, Nat.reduceAdd, Nat.reduceLT, Nat.reduceLeDiff, reduceIte, h1, h2, h3]
    refine ⟨trivial, trivial, trivial, rfl, by omega, bl, _, rfl, hb, hL2.stp (Kept.stp (Kept.refl _ _) ?_), hM2.stp (Kept.stp (Kept.refl _ _) ?_), Cur.nil _ _ _⟩
    ·rintro id _ (h | ⟨n, h⟩)
     ·exact h
     ·cases h
    ·rintro id _ (h | ⟨n, h⟩)
     ·exact h
     ·cases h
   clear hb hL2 hM2 h1 h2 h3
   rintro k e m ⟨h1, h2, h3, h4, hk, bl, X, rfl, hb, hL, hM, hc⟩
   by_cases hlt : k < l.keys.length
   case neg =>
    have hb0 := hb.h0
    have hb1 := hb.h1
    have bo := hb.ho
    have hke : k = l.keys.length := by omega
    rw [hke, List.take_length] at hc
    have w1 := hL.1.cells
    have w2 : X.cells = [X] ∧ X.solid = true ∧ X.isAgg = false := by obtain ⟨es, r1, r2⟩ := hc; exact r1.cells
    have w3 : C.cells = [C] ∧ C.solid = true ∧ C.isAgg = false := by obtain ⟨_, ⟨es, r1, _⟩, _⟩ := hM; exact r1.cells
    have w4 : V.cells = [V] ∧ V.solid = true ∧ V.isAgg = false := by obtain ⟨_, _, ⟨es, r1, _⟩, _⟩ := hM; exact r1.cells
    have w5 := hL.2.2.2.2.cells
    have hs1 : ∀ b, (bl.set 1 b)[1]? = some b := fun b => List.getElem?_set_self (List.getElem?_eq_some_iff.1 hb1).1
    have hwz : writeCells zL 0 [A, C, V, X, R] = some (.agg [A, C, V, X, R]) := rfl
    simp only [go_sem, Nat.reduceEqDiff, Nat.reduceAdd, Nat.reduceLT, Nat.reduceLeDiff, reduceIte, h1, h2, h3, h4, hb0, hb1, bo, LbCells, dec_ge (Nat.le_of_not_lt hlt), w1, w2, w3, w4, w5, hwz, Bool.and_self, hs1]
    have a := hL.stp (q := Bo o) (Kept.stp (Kept.set (i := 1) bl (.inl (.inr (.inl rfl))) (.live [.agg [A, C, V, X, R]] 5)) fun id _ h => .inl h)
    have b := hM.stp (q := fun id => id ≤ o) (Kept.stp (Kept.set (i := 1) bl (.inl (by have := hb.lt; omega)) (.live [.agg [A, C, V, X, R]] 5)) fun id _ h => .inl h)
    have bX := hM.stp (q := Qo o X) (Kept.stp (Kept.set (i := 1) bl (.inl (by have := hb.lt; omega)) (.live [.agg [A, C, V, X, R]] 5)) fun id _ h => h)
    have aX := hL.stp (q := Po o X) (Kept.stp (Kept.set (i := 1) bl (.inl (.inr (.inl rfl))) (.live [.agg [A, C, V, X, R]] 5)) fun id _ h => h)
    obtain ⟨es, r1, r2⟩ := hc
    have kq : Stp (fun id => id ≤ o) (fun id => id ≤ o) bl (bl.set 1 (.live [.agg [A, C, V, X, R]] 5)) := Kept.stp (Kept.set (i := 1) bl (by have := hb.lt; omega) _) fun id _ h => h
    have kQ : Stp (Qo o X) (fun id => id ≤ o) bl (bl.set 1 (.live [.agg [A, C, V, X, R]] 5)) := Kept.stp (Kept.set (i := 1) bl (.inl (by have := hb.lt; omega)) _) fun id _ h => .inl h
    have c : ∃ es, RS (fun id => id ≤ o) es 5 X (bl.set 1 (.live [.agg [A, C, V, X, R]] 5)) ∧ Al2 (KeyR (fun id => id ≤ o) (bl.set 1 (.live [.agg [A, C, V, X, R]] 5))) l.keys es := ⟨es, r1.stp kq, r2.mono (KeyR.stp kQ)⟩
    have fl : ∀ {p : Nat → Prop} {bl : List Blk}, Stp p (fun _ => False) bl bl := fun id b _ hb => ⟨fun h => h, hb⟩
    obtain ⟨es', c1, c2⟩ := c
    obtain ⟨a1, _, _, _, a5⟩ := a
    obtain ⟨_, ⟨bs1, b1, b2⟩, ⟨bs2, b3, b4⟩, _, _⟩ := b
    refine ⟨_, A, C, V, X, R, rfl, rfl, ⟨a1.stp fl, ⟨bs1, b1.stp fl, b2.mono (CompR.stp fl)⟩, ⟨bs2, b3.stp fl, b4.mono (ServR.stp fl)⟩, ⟨es', c1.stp fl, c2.mono (KeyR.stp fl)⟩, a5.stp fl⟩, fun id n hid => ?_, fun id n hid => ?_⟩
    ·have f1 : ∀ {bl : List Blk}, Stp (Qo o X) (fun i => i = id) bl bl := fun i b h hb => ⟨fun e => h (.inr ⟨n, by rw [e]; exact hid⟩), hb⟩
     have f2 : ∀ {bl : List Blk}, Stp (Po o X) (fun i => i = id) bl bl := fun i b h hb => ⟨fun e => h (.inr ⟨n, by rw [e]; exact hid⟩), hb⟩
     have u := bX.stp f1
     have w := aX.stp f2
     exact ⟨w.1, u.2.1, u.2.2.1, ⟨[], .inl ⟨rfl, rfl⟩, trivial⟩, w.2.2.2.2⟩
    ·have hlt := hRo id n hid
     have f1 : ∀ {bl : List Blk}, Stp (fun i => i ≤ o) (fun i => i = id) bl bl := fun i b h hb => ⟨fun e => h (by dsimp only at e ⊢; omega), hb⟩
     exact ⟨a1.ne a5 (by decide) hid, ⟨bs1, b1.stp f1, b2.mono (CompR.stp f1)⟩, ⟨bs2, b3.stp f1, b4.mono (ServR.stp f1)⟩, ⟨es', c1.stp f1, c2.mono (KeyR.stp f1)⟩, .inl ⟨rfl, rfl⟩⟩
   have hob := (List.getElem?_eq_some_iff.1 hb.ho).1
   have b0 := hb.h0
   have bo := hb.ho
   obtain ⟨c, hck⟩ : ∃ c, l.keys[k]? = some c := ⟨_, List.getElem?_eq_getElem hlt⟩
   simp only [go_sem, Nat.reduceEqDiff, Nat.reduceAdd, Nat.reduceLT, Nat.reduceLeDiff, reduceIte, h1, h2, h3, h4, b0, bo, LbCells, dec_lt hlt, encYs_idx hck, KyCells, KyEta, WB17]
   refine WR_mono (CopyKey_run c (hl.kd c (List.mem_of_getElem? hck))) ?_
   rintro v m ⟨bk, rfl, hkr⟩
   have hks := hkr.shift bl 7
   obtain ⟨v', hve, hvr⟩ := hks
   have hve' : Ab.shift bl.length 0 9 v = _ := hve
   obtain ⟨d1, d2, d3⟩ := hvr.cells
   have hj : joinMem ⟨bl, []⟩ ⟨bk, []⟩ 9 = ⟨bl ++ bk.map (shiftB bl.length 0 9), []⟩ := rfl
   have go : (bl ++ bk.map (shiftB bl.length 0 9))[o]? = _ := get_apps bo _
   obtain ⟨X', bl3, hX', ⟨x1, x2, x3⟩, ho3, hst⟩ := cur_step (fun k => KeyR.stp k) hc hb.lt hob (bk.map (shiftB bl.length 0 9)) c (.agg [I64 c.id, I64 c.comp, v', I64 c.fr, I64 c.to]) ⟨v', rfl, hvr⟩ rfl 37 56 (by have := hl.ks; simp only [List.length_take, limit]; omega)
   rw [bo] at ho3
   simp only [go_sem, Nat.reduceEqDiff, Nat.reduceAdd, Nat.reduceLT, Nat.reduceLeDiff, reduceIte, h1, h2, h3, h4, hj, go, hve', Bool.not_false, Bool.true_or, true_and, d1, d2, d3, hX', x1, x2, x3, ho3, wrap_n1 k (by have := hl.ks; omega)]
   obtain ⟨q1, q2, q2q, q3, q4, q5⟩ := hst (.live [.agg [A, C, V, X', R]] 5)
   refine Nx_of (k + 1) (by omega) ?_
   simp only [go_sem, Nat.reduceEqDiff, Nat.reduceAdd, Nat.reduceLT, Nat.reduceLeDiff, reduceIte, h1, h2, h3]
   refine ⟨trivial, trivial, trivial, trivial, hlt, _, X', rfl, ⟨q4.trans hb.h0, q5.trans hb.h1, q3, hb.lt⟩, hL.stp q2, hM.stp q2q, ?_⟩
   rw [take_snoc hck]; exact q1
  have hob := (List.getElem?_eq_some_iff.1 hb.ho).1
  have b0 := hb.h0
  have bo := hb.ho
  obtain ⟨c, hck⟩ : ∃ c, l.screens[k]? = some c := ⟨_, List.getElem?_eq_getElem hlt⟩
  obtain ⟨v, z1, hv, hr⟩ := app0_ints c.devs (bl ++ [Blk.live [AV.agg [I64 c.id, encI c.devs, encFs c.files]] 3]) [] (hl.vd c (List.mem_of_getElem? hck))
  obtain ⟨c1, c2, c3⟩ := hr.cells
  obtain ⟨w, z2, hw, hs⟩ := app0_files c.files (bl ++ [Blk.live [AV.agg [I64 c.id, encI c.devs, encFs c.files]] 3] ++ z1) [] (hl.vf c (List.mem_of_getElem? hck))
  obtain ⟨d1, d2, d3⟩ := hs.cells
  have m1 := hr.kept (Kept.app _ _ z2)
  have m2 := hs.weak (q := fun id => id < (bl ++ [Blk.live [AV.agg [I64 c.id, encI c.devs, encFs c.files]] 3]).length) (fun id _ h => by simp only [List.length_append] at h ⊢; omega)
  rw [List.append_assoc (bs := z1)] at m1 m2
  have go : (bl ++ [Blk.live [AV.agg [I64 c.id, v, w]] 3] ++ z1 ++ z2)[o]? = _ := get_apps (get_apps (get_apps bo _) _) _
  obtain ⟨X', bl3, hX', ⟨x1, x2, x3⟩, ho3, hst⟩ := cur_step (fun k => ServR.stp k) hc hb.lt hob ([Blk.live [AV.agg [I64 c.id, v, w]] 3] ++ (z1 ++ z2)) c (.agg [I64 c.id, v, w]) ⟨v, w, rfl, m1.stp (stp_mid _ _ _ _), m2.stp (stp_mid _ _ _ _)⟩ rfl 51 56 (by have := hl.vs; simp only [List.length_take, limit]; omega)
  rw [← List.append_assoc, ← List.append_assoc] at hX'
  rw [bo] at ho3
  simp only [go_sem, Nat.reduceEqDiff, Nat.reduceAdd, Nat.reduceLT, Nat.reduceLeDiff, reduceIte, h1, h2, h3, h4, b0, bo, LbCells, dec_lt hlt, encVs_idx hck, SvCells, hv, hw, c1, c2, c3, d1, d2, d3, set_mid, get_mid, set_mid2, get_mid2, go, hX', x1, x2, x3, ho3, wrap_n1 k (by have := hl.vs; omega)]
  obtain ⟨q1, q2, q2q, q3, q4, q5⟩ := hst (.live [.agg [A, C, X', .sl [] .tight, R]] 5)
  refine Nx_of (k + 1) (by omega) ?_
  simp only [go_sem, Nat.reduceEqDiff, Nat.reduceAdd, Nat.reduceLT, Nat.reduceLeDiff, reduceIte, h1, h2, h3]
  refine ⟨trivial, trivial, trivial, trivial, hlt, _, X', rfl, ⟨q4.trans hb.h0, q5.trans hb.h1, q3, hb.lt⟩, hL.stp q2, hM.stp q2q, ?_⟩
  rw [take_snoc hck]; exact q1
 have hob := (List.getElem?_eq_some_iff.1 hb.ho).1
 have b0 := hb.h0
 have bo := hb.ho
 obtain ⟨c, hck⟩ : ∃ c, l.comps[k]? = some c := ⟨_, List.getElem?_eq_getElem hlt⟩
 obtain ⟨v, z1, hv, hr⟩ := app0_ints c.assets (bl ++ [Blk.live [AV.agg [I64 c.id, I64 c.film, I64 c.tongue, I64 c.subs, I64 c.mins, AV.bool c.locked, encI c.assets]] 7]) [] (hl.ca c (List.mem_of_getElem? hck))
 obtain ⟨c1, c2, c3⟩ := hr.cells
 have go : (bl ++ [Blk.live [AV.agg [I64 c.id, I64 c.film, I64 c.tongue, I64 c.subs, I64 c.mins, AV.bool c.locked, v]] 7] ++ z1)[o]? = _ := get_apps (get_apps bo _) _
 obtain ⟨X', bl3, hX', ⟨x1, x2, x3⟩, ho3, hst⟩ := cur_step (fun k => CompR.stp k) hc hb.lt hob ([Blk.live [AV.agg [I64 c.id, I64 c.film, I64 c.tongue, I64 c.subs, I64 c.mins, AV.bool c.locked, v]] 7] ++ z1) c (.agg [I64 c.id, I64 c.film, I64 c.tongue, I64 c.subs, I64 c.mins, AV.bool c.locked, v]) ⟨v, rfl, hr.stp (stp_mid _ _ _ _)⟩ rfl 47 72 (by have := hl.cs; simp only [List.length_take, limit]; omega)
 rw [← List.append_assoc] at hX'
 rw [bo] at ho3
 simp only [go_sem, Nat.reduceEqDiff, Nat.reduceAdd, Nat.reduceLT, Nat.reduceLeDiff, reduceIte, h1, h2, h3, h4, b0, bo, LbCells, dec_lt hlt, encCs_idx hck, CmCells, hv, c1, c2, c3, set_mid, get_mid, go, hX', x1, x2, x3, ho3, wrap_n1 k (by have := hl.cs; omega)]
 obtain ⟨q1, q2, q2q, q3, q4, q5⟩ := hst (.live [.agg [A, X', .sl [] .tight, .sl [] .tight, R]] 5)
 refine Nx_of (k + 1) (by omega) ?_
 simp only [go_sem, Nat.reduceEqDiff, Nat.reduceAdd, Nat.reduceLT, Nat.reduceLeDiff, reduceIte, h1, h2, h3]
 refine ⟨trivial, trivial, trivial, trivial, hlt, _, X', rfl, ⟨q4.trans hb.h0, q5.trans hb.h1, q3, hb.lt⟩, hL.stp q2, ?_⟩
 rw [take_snoc hck]; exact q1
theorem Copy_ok (l : Lb) (hl : LbB l) : RV ft 16 [encL l] (encL l) := by
 obtain ⟨n, p, e, bl, A, C, V, Y, R, hm, hv, hr⟩ := Copy_run l hl
 refine ⟨n, ?_⟩
 unfold callV
 rw [e, Option.map_some, hm, hv, show dep = 3 + 6 from rfl, hr.1.snap]
def shp (n : Nat) (p : Nat → Prop) (id : Nat) : Prop := id < n ∨ ∃ j, id = n + j ∧ p j
theorem RS.shp {p : Nat → Prop} {es : List AV} {sz : Nat} {v : AV} {b0 : List Blk} (h : RS p es sz v b0) (bl : List Blk) (k : Nat) :
  RS (shp bl.length p) (es.map (Ab.shift bl.length 0 9)) sz (Ab.shift bl.length 0 (k + 1) v) (bl ++ b0.map (shiftB bl.length 0 9)) := by
 rcases h with ⟨rfl, rfl⟩ | ⟨h1, id, h2, rfl, h4⟩
 ·exact .inl ⟨rfl, rfl⟩
 ·refine .inr ⟨by simpa using h1, bl.length + id, ?_, by simp only [List.length_map]; rfl, ?_⟩
  ·rintro (h | ⟨j, hj, hp⟩)
   ·omega
   ·exact h2 (by rwa [show id = j by omega])
  rw [List.getElem?_append_right (by omega), Nat.add_sub_cancel_left, List.getElem?_map, h4]; rfl
theorem KeyR.shp {p : Nat → Prop} {x : Ky} {e : AV} {b0 : List Blk} (h : KeyR p b0 x e) (bl : List Blk) (k : Nat) : KeyR (shp bl.length p) (bl ++ b0.map (shiftB bl.length 0 9)) x (Ab.shift bl.length 0 (k + 2) e) := by
 obtain ⟨v, rfl, h2⟩ := h
 have := h2.shp bl k
 rw [ints_shift] at this
 exact ⟨_, rfl, this⟩
theorem CompR.shp {p : Nat → Prop} {x : Cm} {e : AV} {b0 : List Blk} (h : CompR p b0 x e) (bl : List Blk) (k : Nat) : CompR (shp bl.length p) (bl ++ b0.map (shiftB bl.length 0 9)) x (Ab.shift bl.length 0 (k + 2) e) := by
 obtain ⟨v, rfl, h2⟩ := h
 have := h2.shp bl k
 rw [ints_shift] at this
 exact ⟨_, rfl, this⟩
theorem ServR.shp {p : Nat → Prop} {x : Sv} {e : AV} {b0 : List Blk} (h : ServR p b0 x e) (bl : List Blk) (k : Nat) : ServR (shp bl.length p) (bl ++ b0.map (shiftB bl.length 0 9)) x (Ab.shift bl.length 0 (k + 2) e) := by
 obtain ⟨v, w, rfl, h2, h3⟩ := h
 have a := h2.shp bl k
 have b := h3.shp bl k
 rw [ints_shift] at a
 rw [files_shift] at b
 exact ⟨_, _, rfl, a, b⟩
theorem LibR.shp {p : Nat → Prop} {l : Lb} {A C V Y R : AV} {b0 : List Blk} (h : LibR p b0 l A C V Y R) (bl : List Blk) (k : Nat) :
  LibR (shp bl.length p) (bl ++ b0.map (shiftB bl.length 0 9)) l (Ab.shift bl.length 0 (k + 1) A) (Ab.shift bl.length 0 (k + 1) C) (Ab.shift bl.length 0 (k + 1) V) (Ab.shift bl.length 0 (k + 1) Y) (Ab.shift bl.length 0 (k + 1) R) := by
 obtain ⟨h1, ⟨es, h2, h3⟩, ⟨fs, h4, h5⟩, ⟨gs, h6, h7⟩, h8⟩ := h
 have a := h1.shp bl k
 have b := h8.shp bl k
 rw [files_shift] at a
 rw [ints_shift] at b
 exact ⟨a, ⟨_, h2.shp bl k, h3.mapR fun x e h => h.shp bl 7⟩, ⟨_, h4.shp bl k, h5.mapR fun x e h => h.shp bl 7⟩, ⟨_, h6.shp bl k, h7.mapR fun x e h => h.shp bl 7⟩, b⟩
def LibE (p : Nat → Prop) (bl : List Blk) (l : Lb) (A C V Y R : AV) : Prop := LibR p bl l A C V Y R ∧
 (∀ (id n : Nat), Y = .ref id 0 n → LibR (fun i => p i ∨ i = id) bl ⟨l.assets, l.comps, l.screens, [], l.recalled⟩ A C V (.sl [] .tight) R) ∧
 (∀ (id n : Nat), R = .ref id 0 n → LibR (fun i => p i ∨ i = id) bl ⟨l.assets, l.comps, l.screens, l.keys, []⟩ A C V Y (.sl [] .tight))
theorem LibE.stp {p q : Nat → Prop} {bl bl' : List Blk} {l : Lb} {A C V Y R : AV} (k : Stp p q bl bl') (h : LibE p bl l A C V Y R) : LibE q bl' l A C V Y R := by
 have k2 : ∀ id : Nat, Stp (fun i => p i ∨ i = id) (fun i => q i ∨ i = id) bl bl' := fun id i b hp hb => by
  have := k i b (fun h => hp (.inl h)) hb
  exact ⟨fun hq => hq.elim this.1 fun h => hp (.inr h), this.2⟩
 exact ⟨h.1.stp k, fun id n e => (h.2.1 id n e).stp (k2 id), fun id n e => (h.2.2 id n e).stp (k2 id)⟩
theorem shift_ref {n t k : Nat} {v : AV} {id m : Nat} (h : Ab.shift n t (k + 1) v = .ref id 0 m) : ∃ j, id = n + j ∧ ∃ o, v = .ref j o m ∧ o = 0 := by
 cases v <;> simp only [Ab.shift] at h <;> try cases h
 ·rename_i es tk; cases tk <;> simp at h
 ·exact ⟨_, rfl, _, rfl, rfl⟩
theorem stp_id {p q : Nat → Prop} {bl : List Blk} (h : ∀ id, q id → p id) : Stp p q bl bl := fun id b hp hb => ⟨fun hq => hp (h id hq), hb⟩
theorem LibD.call {bk : List Blk} {l : Lb} {A C V Y R : AV} (h : LibD bk l A C V Y R) (bl : List Blk) : ∃ B A' C' V' Y' R', joinMem ⟨bl, []⟩ ⟨bk, []⟩ 9 = ⟨B, []⟩ ∧ Ab.shift bl.length 0 9 (.agg [A, C, V, Y, R]) = .agg [A', C', V', Y', R'] ∧
  LibE (fun id => id < bl.length) B l A' C' V' Y' R' ∧ Kept (fun _ => False) bl B := by
 refine ⟨_, _, _, _, _, _, rfl, rfl, ⟨LibR.stp (stp_id fun id h => .inl h) (h.1.shp bl 7), fun id n e => ?_, fun id n e => ?_⟩, Kept.app _ _ _⟩
 ·obtain ⟨j, rfl, o, rfl, rfl⟩ := shift_ref e
  exact LibR.stp (stp_id fun id h => h.elim .inl fun h => .inr ⟨j, h, rfl⟩) ((h.2.1 j n rfl).shp bl 7)
 ·obtain ⟨j, rfl, o, rfl, rfl⟩ := shift_ref e
  exact LibR.stp (stp_id fun id h => h.elim .inl fun h => .inr ⟨j, h, rfl⟩) ((h.2.2 j n rfl).shp bl 7)
/-! ### What one more key and one more recall change -/
theorem canP_open {p : Pl} (hN : NF p.opn) (m0 : 1 ≤ p.mins) (fr : Int) : canP p fr = true ↔ p.miss = [] ∧ ∀ m, fr ≤ m → m < fr + p.mins → inSp p.opn m := by
 rw [canP_iff]
 obtain ⟨h1, h2, h3⟩ := shut_spec hN fr
 refine and_congr_right fun _ => ⟨fun h m hm hm2 => h3 m hm (by omega), fun h => ?_⟩
 refine Classical.byContradiction fun hn => h2 (h _ h1 (by omega))
theorem place_open {l : Lb} (hV : LibV l) (c : Cm) (s : Sv) (m : Int) : inSp (placeP l c s).opn m ↔ if c.locked then ∃ k ∈ opensP l c s, k.fr ≤ m ∧ m ≤ k.to else 0 ≤ m ∧ m ≤ 9999 := by
 show inSp (if c.locked then spansOf (opensP l c s) else [⟨0, 9999⟩]) m ↔ _
 split
 ·exact (spansOf_spec fun k hk => (hV.kb k (List.mem_filter.1 (List.mem_filter.1 hk).1).1).2.1).2 m
 ·simp [inSp]
/-! ### The fewest -/
theorem mem_opens (l : Lb) (c : Cm) (s : Sv) (k : Ky) : k ∈ opensP l c s ↔ k ∈ l.keys ∧ keepK l c k = true ∧ opensK s k = true := by
 unfold opensP keysP
 rw [List.mem_filter, List.mem_filter, and_assoc]
def opR (l : Lb) (k : Ky) (c : Cm) (s : Sv) : Bool := s.devs.all (fun d => k.devs.any (· == d)) && ((k.comp == c.id) && !(l.recalled.any (· == k.id)))
theorem Opens_ok (l : Lb) (k : Ky) (c : Cm) (s : Sv) (hs : s.devs.length < 1073741824) (hk : k.devs.length < 1073741824) (hr : l.recalled.length < 1073741824) : RV ft 66 [encL l, encK k, encC c, encV s] (.bool (opR l k c s)) := by
 refine RV_of ft66 rfl ?_
 simp only [c66, r66]
 have hI := In_ok l.recalled k.id hr
 simp only [go_sem, Nat.reduceEqDiff, Nat.reduceAdd, Nat.reduceLT, Nat.reduceLeDiff, reduceIte, LbCells, KyCells, CmCells, SvCells]
 refine WL_inv (α := Nat × List Int) (fun q e mm => e 4 = .ptr 0 0 0 ∧ e 5 = .ptr 1 0 0 ∧ e 6 = .ptr 2 0 0 ∧ e 7 = .ptr 3 0 0 ∧ e 9 = I64 q.1 ∧ s.devs.drop q.1 = q.2 ∧ mm = ⟨[.live [encL l] 5, .live [encK k] 5, .live [encC c] 7, .live [encV s] 3], []⟩ ∧ q.2.all (fun d => k.devs.any (· == d)) = s.devs.all (fun d => k.devs.any (· == d))) (fun q => q.2.length) (0, s.devs) ?_ ?_
 ·simp only [go_sem, Nat.reduceEqDiff, Nat.reduceAdd, Nat.reduceLT, Nat.reduceLeDiff, reduceIte]
  ((repeat' apply And.intro) <;> first | trivial | rfl | omega | assumption)
 rintro ⟨j, r⟩ e m ⟨h4, h5, h6, h7, h9, hd, rfl, hq⟩
 dsimp only at h9 hd hq
 cases r with
 | nil =>
  have h3 := drop_nil hd
  unfold opR
  rw [← hq]
  cases hc : (k.comp == c.id)
  ·simp only [go_sem, Nat.reduceEqDiff, Nat.reduceAdd, Nat.reduceLT, Nat.reduceLeDiff, reduceIte, h4, h5, h6, h7, h9, LbCells, KyCells, CmCells, SvCells, dec_ge h3, hc, Nat.zero_add]
  ·simp only [go_sem, Nat.reduceEqDiff, Nat.reduceAdd, Nat.reduceLT, Nat.reduceLeDiff, reduceIte, h4, h5, h6, h7, h9, LbCells, KyCells, CmCells, SvCells, dec_ge h3, hc, Nat.zero_add, WB26, WVH_eq hI, true_and]
 | cons x r =>
  obtain ⟨hk1, hd2, hlt⟩ := drop_cons hd
  have hJ := In_ok k.devs x hk
  cases hx : k.devs.any (· == x)
  ·rw [hx] at hJ
   simp only [go_sem, Nat.reduceEqDiff, Nat.reduceAdd, Nat.reduceLT, Nat.reduceLeDiff, reduceIte, h4, h5, h6, h7, h9, LbCells, KyCells, CmCells, SvCells, dec_lt hlt, encI_idx hk1, WB26, WVH_eq hJ, true_and]
   unfold opR
   rw [← hq]; simp [hx]
  ·rw [hx] at hJ
   simp only [go_sem, Nat.reduceEqDiff, Nat.reduceAdd, Nat.reduceLT, Nat.reduceLeDiff, reduceIte, h4, h5, h6, h7, h9, LbCells, KyCells, CmCells, SvCells, dec_lt hlt, encI_idx hk1, WB26, WVH_eq hJ, true_and, wrap_n1 j (by omega)]
   refine Nx_of (j + 1, r) (by simp) ?_
   simp only [go_sem, Nat.reduceEqDiff, Nat.reduceAdd, Nat.reduceLT, Nat.reduceLeDiff, reduceIte, h4, h5, h6, h7]
   exact ⟨trivial, trivial, trivial, trivial, trivial, hd2, trivial, by rw [← hq]; simp [hx]⟩
theorem opR_eq (l : Lb) (k : Ky) (c : Cm) (s : Sv) : opR l k c s = (opensK s k && keepK l c k) := by
 unfold opR opensK keepK
 congr 1
 unfold foreignP
 rw [findP_any (fun d => !(k.devs.any (· == d))) 0 s.devs, List.all_eq_not_any_not]
def lackR (as fs : List Fl) (id : Int) : Bool := !(sumF id fs).2 || ((sumF id fs).1 != (sumF id as).1)
theorem ints_snap' (m : Mem) (k : Nat) (l : List Int) : (l.map fun n => I64 n).map (snap m (k + 1)) = l.map fun n => I64 n := by rw [List.map_map]; rfl
theorem missingR_ok (l : Lb) (c : Cm) (s : Sv) (hB : LbB l) (hc : c.assets.length < 1073741824) (hf : s.files.length < 1073741824) : RV ft 63 [encL l, encC c, encV s] (encI (c.assets.filter (lackR l.assets s.files))) := by
 refine RV_of ft63 rfl ?_
 simp only [c63, r63]
 simp only [go_sem, Nat.reduceEqDiff, Nat.reduceAdd, Nat.reduceLT, Nat.reduceLeDiff, reduceIte, LbCells, CmCells, SvCells]
 refine WL_inv (α := Nat × List Int) (fun q e mm => e 3 = .ptr 0 0 0 ∧ e 4 = .ptr 1 0 0 ∧ e 5 = .ptr 2 0 0 ∧ e 8 = I64 q.1 ∧ c.assets.drop q.1 = q.2 ∧ q.1 ≤ c.assets.length ∧ ∃ toks, mm = ⟨[.live [encL l] 5, .live [encC c] 7, .live [encV s] 3], toks⟩ ∧ AccP [] 3 (((c.assets.take q.1).filter (lackR l.assets s.files)).map fun n => I64 n) (e 7) toks) (fun q => q.2.length) (0, c.assets) ?_ ?_
 ·simp only [go_sem, Nat.reduceEqDiff, Nat.reduceAdd, Nat.reduceLT, Nat.reduceLeDiff, reduceIte]
  exact ⟨trivial, trivial, trivial, rfl, trivial, Nat.zero_le _, _, rfl, AccP_nil _ _⟩
 rintro ⟨j, r⟩ e m ⟨h3, h4, h5, h8, hd, hj, toks, rfl, hA⟩
 dsimp only at h8 hd hj hA
 obtain ⟨c1, c2, c3⟩ := hA.cells
 cases r with
 | nil =>
  have hz := drop_nil hd
  have ht : c.assets.take j = c.assets := List.take_of_length_le hz
  rw [ht] at hA
  simp only [go_sem, Nat.reduceEqDiff, Nat.reduceAdd, Nat.reduceLT, Nat.reduceLeDiff, reduceIte, h3, h4, h5, h8, LbCells, CmCells, SvCells, dec_ge hz, hA.snap, ints_snap']
  rfl
 | cons y r =>
  obtain ⟨hk1, hd2, hlt⟩ := drop_cons hd
  have s1 := sum_ok l.assets y hB.as
  have s2 := sum_ok s.files y hf
  have htk := take_filter hk1 (lackR l.assets s.files)
  have hfl : ((c.assets.take j).filter (lackR l.assets s.files)).length ≤ j := Nat.le_trans (List.length_filter_le _ _) (by simp; omega)
  cases hb : (sumF y s.files).2
  ·have hlk : lackR l.assets s.files y = true := by unfold lackR; rw [hb]; rfl
   rw [hlk, if_pos rfl] at htk
   simp only [go_sem, Nat.reduceEqDiff, Nat.reduceAdd, Nat.reduceLT, Nat.reduceLeDiff, reduceIte, h3, h4, h5, h8, LbCells, CmCells, SvCells, dec_lt hlt, encI_idx hk1, WB104, WVH_eq s1, WVH_eq s2, true_and, hb]
   refine hA.app (fun a ha => by obtain ⟨n, _, rfl⟩ := List.mem_map.1 ha; rfl) rfl (by simp only [List.length_map, limit]; omega) fun v' toks' hA' => ?_
   simp only [go_sem, Nat.reduceEqDiff, Nat.reduceAdd, Nat.reduceLT, Nat.reduceLeDiff, reduceIte, h3, h4, h5, h8, wrap_n1 j (by omega)]
   refine Nx_of (j + 1, r) (by simp) ?_
   simp only [go_sem, Nat.reduceEqDiff, Nat.reduceAdd, Nat.reduceLT, Nat.reduceLeDiff, reduceIte, h3, h4, h5]
   exact ⟨trivial, trivial, trivial, trivial, hd2, hlt, _, rfl, by rw [htk, List.map_append]; exact hA'⟩
  ·cases he : ((sumF y s.files).1 != (sumF y l.assets).1)
   ·have hlk : lackR l.assets s.files y = false := by unfold lackR; rw [hb, he]; rfl
    rw [hlk, if_neg (by simp), List.append_nil] at htk
    simp only [go_sem, Nat.reduceEqDiff, Nat.reduceAdd, Nat.reduceLT, Nat.reduceLeDiff, reduceIte, h3, h4, h5, h8, LbCells, CmCells, SvCells, dec_lt hlt, encI_idx hk1, WB104, WVH_eq s1, WVH_eq s2, true_and, hb, he, wrap_n1 j (by omega)]
    refine Nx_of (j + 1, r) (by simp) ?_
    simp only [go_sem, Nat.reduceEqDiff, Nat.reduceAdd, Nat.reduceLT, Nat.reduceLeDiff, reduceIte, h3, h4, h5]
    exact ⟨trivial, trivial, trivial, trivial, hd2, hlt, _, rfl, by rw [htk]; exact hA⟩
   ·have hlk : lackR l.assets s.files y = true := by unfold lackR; rw [hb, he]; rfl
    rw [hlk, if_pos rfl] at htk
    simp only [go_sem, Nat.reduceEqDiff, Nat.reduceAdd, Nat.reduceLT, Nat.reduceLeDiff, reduceIte, h3, h4, h5, h8, LbCells, CmCells, SvCells, dec_lt hlt, encI_idx hk1, WB104, WVH_eq s1, WVH_eq s2, true_and, hb, he]
    refine hA.app (fun a ha => by obtain ⟨n, _, rfl⟩ := List.mem_map.1 ha; rfl) rfl (by simp only [List.length_map, limit]; omega) fun v' toks' hA' => ?_
    simp only [go_sem, Nat.reduceEqDiff, Nat.reduceAdd, Nat.reduceLT, Nat.reduceLeDiff, reduceIte, h3, h4, h5, h8, wrap_n1 j (by omega)]
    refine Nx_of (j + 1, r) (by simp) ?_
    simp only [go_sem, Nat.reduceEqDiff, Nat.reduceAdd, Nat.reduceLT, Nat.reduceLeDiff, reduceIte, h3, h4, h5]
    exact ⟨trivial, trivial, trivial, trivial, hd2, hlt, _, rfl, by rw [htk, List.map_append]; exact hA'⟩
theorem sumF_find (id : Int) : ∀ (l : List Fl), sumF id l = ((findA id l).1.sum, (findA id l).2)
 | [] => rfl
 | f :: r => by
  unfold sumF findA findP
  by_cases h : (f.id == id) = true
  ·rw [if_pos h, if_pos h]
  ·rw [if_neg h, if_neg h]
   exact sumF_find id r
theorem files_uniq {fs : List Fl} (h : filesL fs = true) : ∀ x ∈ fs, ∀ y ∈ fs, x.id = y.id → x = y := by
 rw [← okA_files, okFrom_drop Fl.id okA fs fs 0 rfl] at h
 have lt : ∀ (i j : Nat) (x y : Fl), i < j → fs[i]? = some x → fs[j]? = some y → x.id = y.id → False := fun i j x y hij hi hj he => by
  have := h j (Nat.zero_le _) (List.getElem?_eq_some_iff.1 hj).1
  rw [goodAt_some Fl.id okA hj, Bool.and_eq_true, Bool.not_eq_true', List.any_eq_false] at this
  have h2 := this.1 x (List.mem_of_getElem? (i := i) (by rw [List.getElem?_take_of_lt hij]; exact hi))
  exact h2 (by simpa using he)
 intro x hx y hy he
 obtain ⟨i, hi⟩ := List.getElem?_of_mem hx
 obtain ⟨j, hj⟩ := List.getElem?_of_mem hy
 rcases Nat.lt_trichotomy i j with hij | hij | hij
 ·exact (lt i j x y hij hi hj he).elim
 ·subst hij; rw [hi] at hj; cases hj; rfl
 ·exact (lt j i y x hij hj hi he.symm).elim
theorem lacks_eq {as fs : List Fl} (hf : filesL fs = true) {id : Int} (ha : (findA id as).2 = true) : lackR as fs id = lacks as fs id := by
 have ha2 := (findP_mem ha).2
 have ha3 : (findA id as).1.id = id := beq_iff_eq.1 ha2
 unfold lackR lacks
 rw [sumF_find, sumF_find]
 dsimp only
 cases hb : (findA id fs).2
 ·have hn : (fs.any fun x => decide ((findA id as).1 = x)) = false := by
   rw [List.any_eq_false]
   intro x hx h
   have hx2 : x = (findA id as).1 := (of_decide_eq_true h).symm
   unfold findA at hb
   rw [findP_any, List.any_eq_false] at hb
   exact hb x hx (by rw [hx2]; simpa using ha3)
  rw [hn]; rfl
 ·obtain ⟨hb1, hb2⟩ := findP_mem hb
  have hb3 : (findA id fs).1.id = id := beq_iff_eq.1 hb2
  have hb1' : (findA id fs).1 ∈ fs := hb1
  by_cases hs : (findA id fs).1.sum = (findA id as).1.sum
  ·have he : (findA id as).1 = (findA id fs).1 := by
    cases h1 : (findA id as).1; cases h2 : (findA id fs).1
    rw [h1, h2] at hs; rw [h1] at ha3; rw [h2] at hb3
    dsimp only at hs ha3 hb3
    rw [hs, ha3, hb3]
   have hn : (fs.any fun x => decide ((findA id as).1 = x)) = true := List.any_eq_true.2 ⟨_, hb1', by simpa using he⟩
   rw [hn, hs]; simp
  ·have hn : (fs.any fun x => decide ((findA id as).1 = x)) = false := by
    rw [List.any_eq_false]
    intro x hx h
    have hx2 : (findA id as).1 = x := of_decide_eq_true h
    have := files_uniq hf x hx _ hb1' (by rw [← hx2, ha3, hb3])
    exact hs (by rw [← this, hx2])
   have hne : ((findA id fs).1.sum != (findA id as).1.sum) = true := by simpa [bne] using hs
   rw [hn, hne]; rfl
theorem missR_eq {l : Lb} (hV : LibV l) {c : Cm} (hc : c ∈ l.comps) {s : Sv} (hs : s ∈ l.screens) : c.assets.filter (lackR l.assets s.files) = missP l.assets c.assets s.files := by
 unfold missP
 refine List.filter_congr fun id hid => ?_
 have h1 := okFrom_mem hV.co hc
 have h2 := okFrom_mem hV.sc hs
 refine lacks_eq ?_ ?_
 ·simp only [screenOK, Bool.and_eq_true] at h2
  exact h2.2.2.2.2
 ·simp only [compOK, Bool.and_eq_true, List.all_eq_true] at h1
  have := h1.1 id hid
  rw [sumF_find] at this; exact this
def rowB (n : Nat) (f : Nat → Bool) : List AV := (List.range n).map fun i => AV.bool (f i)
theorem rowB_len (n : Nat) (f : Nat → Bool) : (rowB n f).length = n := by simp [rowB]
theorem rowB_get {n : Nat} (f : Nat → Bool) {i : Nat} (h : i < n) : (rowB n f)[i]? = some (.bool (f i)) := by simp [rowB, h]
theorem rowB_set (n : Nat) (f : Nat → Bool) (i : Nat) (b : Bool) : (rowB n f).set i (.bool b) = rowB n fun j => if j = i then b else f j := by
 refine List.ext_getElem? fun j => ?_
 rw [List.getElem?_set]
 by_cases hj : j < n
 ·rw [rowB_get _ hj, rowB_get _ hj, rowB_len]
  by_cases h : i = j
  ·subst h; rw [if_pos rfl, if_pos hj, if_pos rfl]
  ·rw [if_neg h, if_neg (fun e => h e.symm)]
 ·have h1 : (rowB n f)[j]? = none := List.getElem?_eq_none (by rw [rowB_len]; omega)
  have h2 : (rowB n fun j => if j = i then b else f j)[j]? = none := List.getElem?_eq_none (by rw [rowB_len]; omega)
  rw [h1, h2, rowB_len]
  by_cases h : i = j
  ·subst h; rw [if_pos rfl, if_neg hj]
  ·rw [if_neg h]
theorem take_snoc' {α : Type} {l : List α} {k : Nat} {x : α} (h : l[k]? = some x) : l.take (k + 1) = l.take k ++ [x] := by
 rw [List.take_add_one, h]; rfl
theorem rowB_false (n : Nat) : List.replicate n (AV.bool false) = rowB n fun _ => false := by
 unfold rowB
 rw [List.map_const']
 simp
def openB (l : Lb) (c : Cm) (s : Sv) (ks : List Ky) (i : Nat) : Bool := ks.any fun k => opR l k c s && (decide (k.fr ≤ (i : Int)) && decide ((i : Int) ≤ k.to))
def encR (n : Nat) (f : Nat → Bool) : AV := .sl (rowB n f) .unk
theorem make_row {N : Nat} (hN : N = 10000) (m : Mem) : makeAt m (.bool false) 1 1 (I64 10000) (I64 10000) = some (.ref m.blks.length 0 N, newBlk m (rowB N fun _ => false) 1) := by
 subst hN
 rw [makeAt_int, if_pos ⟨⟨by decide, rfl⟩, by decide, rfl, rfl⟩, show Int.toNat 10000 = 10000 from rfl, rowB_false]
theorem openR_ok (l : Lb) (c : Cm) (s : Sv) (hB : LbB l) (hV : LibV l) (hs : s.devs.length < 1073741824) : RV ft 64 [encL l, encC c, encV s] (encR 10000 fun i => !c.locked || openB l c s l.keys i) := by
 obtain ⟨N, hN⟩ : ∃ N, N = 10000 := ⟨_, rfl⟩
 rw [← hN]
 refine RV_of ft64 rfl ?_
 simp only [c64, r64]
 simp only [go_sem, Nat.reduceEqDiff, Nat.reduceAdd, Nat.reduceLT, Nat.reduceLeDiff, reduceIte, LbCells, CmCells, SvCells, make_row hN]
 refine WL_inv (α := Nat × List Ky) (fun q e mm => e 3 = .ptr 0 0 0 ∧ e 4 = .ptr 1 0 0 ∧ e 5 = .ptr 2 0 0 ∧ e 7 = .ref 3 0 N ∧ e 8 = I64 q.1 ∧ l.keys.drop q.1 = q.2 ∧ ∃ bl tk, mm = ⟨bl, tk⟩ ∧ bl[0]? = some (.live [encL l] 5) ∧ bl[1]? = some (.live [encC c] 7) ∧ bl[2]? = some (.live [encV s] 3) ∧ bl[3]? = some (.live (rowB N (openB l c s (l.keys.take q.1))) 1)) (fun q => q.2.length) (0, l.keys) ?_ ?_
 ·simp only [go_sem, Nat.reduceEqDiff, Nat.reduceAdd, Nat.reduceLT, Nat.reduceLeDiff, reduceIte]
  exact ⟨trivial, trivial, trivial, trivial, rfl, trivial, _, _, rfl, rfl, rfl, rfl, rfl⟩
 rintro ⟨k, r⟩ e m ⟨h3, h4, h5, h7, h8, hd, bl, tk, rfl, b0, b1, b2, b3⟩
 dsimp only at h8 hd b3
 cases r with
 | nil =>
  have hz := drop_nil hd
  simp only [go_sem, Nat.reduceEqDiff, Nat.reduceAdd, Nat.reduceLT, Nat.reduceLeDiff, reduceIte, h3, h4, h5, h7, h8, b0, LbCells, dec_ge hz]
  have hkn : l.keys.take k = l.keys := List.take_of_length_le hz
  rw [hkn] at b3
  clear hz hd h8 hkn
  refine WL_inv (α := Nat) (fun i e mm => e 4 = .ptr 1 0 0 ∧ e 7 = .ref 3 0 N ∧ e 11 = I64 i ∧ i ≤ N ∧ (c.locked = true → i = 0) ∧ ∃ B, mm = ⟨B, tk⟩ ∧ B[1]? = some (.live [encC c] 7) ∧ B[3]? = some (.live (rowB N fun m => decide (m < i) || openB l c s l.keys m) 1)) (fun i => N - i) 0 ?_ ?_
  ·simp only [go_sem, Nat.reduceEqDiff, Nat.reduceAdd, Nat.reduceLT, Nat.reduceLeDiff, reduceIte, h4, h7]
   refine ⟨trivial, trivial, rfl, Nat.zero_le _, fun _ => trivial, _, rfl, b1, ?_⟩
   rw [b3]
   congr 2
  clear h3 h4 h5 h7 b0 b1 b2 b3
  rintro i e m ⟨h4, h7, h11, hiN, hlk, B, rfl, b1, b3⟩
  have fin : ∀ (f : Nat → Bool), (∀ m, m < N → f m = (decide (m < i) || openB l c s l.keys m)) → snEs ⟨B, tk⟩ 8 (if 0 + N ≤ (rowB N fun m => decide (m < i) || openB l c s l.keys m).length then some (List.take N (rowB N fun m => decide (m < i) || openB l c s l.keys m)) else none) = encR N f := fun f hf => by
   rw [if_pos (by rw [rowB_len]; omega), List.take_of_length_le (by rw [rowB_len]; omega)]
   show AV.sl (List.map (snap ⟨B, tk⟩ 8) (rowB N fun m => decide (m < i) || openB l c s l.keys m)) .unk = _
   unfold encR rowB
   rw [List.map_map]
   congr 1
   refine List.map_congr_left fun m hm => ?_
   rw [hf m (List.mem_range.1 hm)]; rfl
  cases hcl : c.locked
  ·by_cases hi : i < N
   ·have hd0 : decide ((i : Int) < (N : Int)) = true := decide_eq_true (by omega)
    have hd1 : decide ((0 ≤ (i : Int) ∧ (i : Int) < (N : Int)) ∧ True) = true := decide_eq_true ⟨⟨by omega, by omega⟩, trivial⟩
    have hset := rowB_set N (fun m => decide (m < i) || openB l c s l.keys m) i true
    have hget := rowB_get (fun m => decide (m < i) || openB l c s l.keys m) hi
    simp only [go_sem, Nat.reduceEqDiff, Nat.reduceAdd, Nat.reduceLT, Nat.reduceLeDiff, reduceIte, h4, h7, h11, b1, b3, CmCells, lenAt_ref, hd0, hd1, hcl, Int.toNat_natCast, Nat.zero_add, hget, hset, wrap_n1 i (by omega), Bool.not_false]
    refine Nx_of (i + 1) (by omega) ?_
    simp only [go_sem, Nat.reduceEqDiff, Nat.reduceAdd, Nat.reduceLT, Nat.reduceLeDiff, reduceIte, h4, h7]
    have h3B : 3 < B.length := (List.getElem?_eq_some_iff.1 b3).1
    refine ⟨trivial, trivial, trivial, by omega, fun h => (by cases h), _, rfl, ?_, ?_⟩
    ·rw [List.getElem?_set_ne (by omega)]; exact b1
    ·rw [List.getElem?_set_self h3B]
     congr 2
     unfold rowB
     refine List.map_congr_left fun m _ => ?_
     dsimp only
     by_cases hmi : m = i
     ·subst hmi; rw [if_pos rfl, decide_eq_true (by omega), Bool.true_or]
     ·have : decide (m < i + 1) = decide (m < i) := by rw [Bool.eq_iff_iff]; simp; omega
      rw [if_neg hmi, this]
   ·have hd0 : decide ((i : Int) < (N : Int)) = false := decide_eq_false (by omega)
    simp only [go_sem, Nat.reduceEqDiff, Nat.reduceAdd, Nat.reduceLT, Nat.reduceLeDiff, reduceIte, h4, h7, h11, b1, b3, CmCells, lenAt_ref, hd0, hcl]
    refine fin _ fun m hm => ?_
    rw [decide_eq_true (show m < i by omega)]
    simp
  ·obtain rfl := hlk hcl
   by_cases hN0 : ((0 : Nat) : Int) < (N : Int)
   ·simp only [go_sem, Nat.reduceEqDiff, Nat.reduceAdd, Nat.reduceLT, Nat.reduceLeDiff, reduceIte, h4, h7, h11, b1, b3, CmCells, lenAt_ref, decide_eq_true hN0, hcl, Bool.not_true]
    refine fin _ fun m hm => ?_
    simp
   ·omega
 | cons y r =>
  obtain ⟨hk1, hd2, hlt⟩ := drop_cons hd
  have b0' := fun z => get_app1 b0 z
  have b1' := fun z => get_app1 b1 z
  have b2' := fun z => get_app1 b2 z
  have b3' := fun z => get_app1 b3 z
  have hO := Opens_ok l y c s hs (hB.kd y (List.mem_of_getElem? hk1)) hB.rs
  cases hop : opR l y c s
  ·rw [hop] at hO
   simp only [go_sem, Nat.reduceEqDiff, Nat.reduceAdd, Nat.reduceLT, Nat.reduceLeDiff, reduceIte, h3, h4, h5, h7, h8, b0, b1, b2, LbCells, CmCells, SvCells, CmEta, SvEta, LbEta, KyCells, KyEta, dec_lt hlt, encYs_idx hk1, get_last, set_last, b0', b1', b2', WB66, WVH_eq hO, true_and, wrap_n1 k (by have := hB.ks; omega)]
   refine Nx_of (k + 1, r) (by simp) ?_
   simp only [go_sem, Nat.reduceEqDiff, Nat.reduceAdd, Nat.reduceLT, Nat.reduceLeDiff, reduceIte, h3, h4, h5, h7]
   refine ⟨trivial, trivial, trivial, trivial, trivial, hd2, _, _, rfl, b0' _, b1' _, b2' _, ?_⟩
   rw [b3', take_snoc' hk1]
   congr 2
   unfold rowB
   refine List.map_congr_left fun i _ => ?_
   simp [openB, List.any_append, hop]
  ·rw [hop] at hO
   simp only [go_sem, Nat.reduceEqDiff, Nat.reduceAdd, Nat.reduceLT, Nat.reduceLeDiff, reduceIte, h3, h4, h5, h7, h8, b0, b1, b2, LbCells, CmCells, SvCells, CmEta, SvEta, LbEta, KyCells, KyEta, dec_lt hlt, encYs_idx hk1, get_last, set_last, b0', b1', b2', WB66, WVH_eq hO, true_and]
   have hyB := hV.kb y (List.mem_of_getElem? hk1)
   obtain ⟨y0, y1, y2⟩ := hyB
   obtain ⟨f0, hf0⟩ : ∃ f0 : Nat, y.fr = f0 := ⟨y.fr.toNat, by omega⟩
   have hn3 : 3 < bl.length := (List.getElem?_eq_some_iff.1 b3).1
   obtain ⟨n, hn⟩ : ∃ n, n = bl.length := ⟨_, rfl⟩
   have hlast : (bl ++ [Blk.live [encK y] 5])[n]? = some (.live [encK y] 5) := by rw [hn]; exact get_last _ _
   rw [← hn]
   refine WL_inv (α := Nat) (fun j e mm => e 3 = .ptr 0 0 0 ∧ e 4 = .ptr 1 0 0 ∧ e 5 = .ptr 2 0 0 ∧ e 7 = .ref 3 0 N ∧ e 8 = I64 k ∧ e 9 = .ptr n 0 0 ∧ e 10 = I64 j ∧ f0 ≤ j ∧ (j : Int) ≤ y.to + 1 ∧ ∃ B, mm = ⟨B, tk⟩ ∧ B[0]? = some (.live [encL l] 5) ∧ B[1]? = some (.live [encC c] 7) ∧ B[2]? = some (.live [encV s] 3) ∧ B[n]? = some (.live [encK y] 5) ∧ B[3]? = some (.live (rowB N fun i => openB l c s (l.keys.take k) i || (decide (f0 ≤ i) && decide (i < j))) 1)) (fun j => (y.to + 1 - j).toNat) f0 ?_ ?_
   ·simp only [go_sem, Nat.reduceEqDiff, Nat.reduceAdd, Nat.reduceLT, Nat.reduceLeDiff, reduceIte, h3, h4, h5, h7, h8, hf0]
    refine ⟨trivial, trivial, trivial, trivial, trivial, trivial, trivial, Nat.le_refl _, by omega, _, rfl, b0' _, b1' _, b2' _, hlast, ?_⟩
    rw [b3']
    congr 2
    unfold rowB
    refine List.map_congr_left fun i _ => ?_
    have : (decide (f0 ≤ i) && decide (i < f0)) = false := by simp <;> omega
    dsimp only
    rw [this, Bool.or_false]
   clear b0' b1' b2' b3' h3 h4 h5 h7 h8 b0 b1 b2 b3 hlast
   rintro j e m ⟨h3, h4, h5, h7, h8, h9, h10, hj0, hj1, B, rfl, b0, b1, b2, bn, b3⟩
   by_cases hjt : (j : Int) ≤ y.to
   ·have hj4 : j < N := by omega
    have hd1 : decide ((0 ≤ (j : Int) ∧ (j : Int) < (N : Int)) ∧ True) = true := decide_eq_true ⟨⟨by omega, by omega⟩, trivial⟩
    have hset := rowB_set N (fun i => openB l c s (l.keys.take k) i || (decide (f0 ≤ i) && decide (i < j))) j true
    have hget := rowB_get (fun i => openB l c s (l.keys.take k) i || (decide (f0 ≤ i) && decide (i < j))) hj4
    simp only [go_sem, Nat.reduceEqDiff, Nat.reduceAdd, Nat.reduceLT, Nat.reduceLeDiff, reduceIte, h3, h4, h5, h7, h8, h9, h10, b0, bn, b3, KyCells, decide_eq_true hjt, wrap_n1 j (by omega), hd1, Int.toNat_natCast, Nat.zero_add, hget, hset]
    refine Nx_of (j + 1) (by omega) ?_
    simp only [go_sem, Nat.reduceEqDiff, Nat.reduceAdd, Nat.reduceLT, Nat.reduceLeDiff, reduceIte, h3, h4, h5, h7, h8, h9]
    have h3B : 3 < B.length := (List.getElem?_eq_some_iff.1 b3).1
    refine ⟨trivial, trivial, trivial, trivial, trivial, trivial, trivial, by omega, by omega, _, rfl, ?_, ?_, ?_, ?_, ?_⟩
    ·rw [List.getElem?_set_ne (by omega)]; exact b0
    ·rw [List.getElem?_set_ne (by omega)]; exact b1
    ·rw [List.getElem?_set_ne (by omega)]; exact b2
    ·rw [List.getElem?_set_ne (by omega)]; exact bn
    ·rw [List.getElem?_set_self h3B]
     congr 2
     unfold rowB
     refine List.map_congr_left fun i _ => ?_
     dsimp only
     by_cases hij : i = j
     ·subst hij
      have : (decide (f0 ≤ i) && decide (i < i + 1)) = true := by simp; omega
      rw [if_pos rfl, this, Bool.or_true]
     ·have : (decide (f0 ≤ i) && decide (i < j + 1)) = (decide (f0 ≤ i) && decide (i < j)) := by rw [Bool.eq_iff_iff]; simp; omega
      rw [if_neg hij, this]
   ·simp only [go_sem, Nat.reduceEqDiff, Nat.reduceAdd, Nat.reduceLT, Nat.reduceLeDiff, reduceIte, h3, h4, h5, h7, h8, h9, h10, b0, bn, b3, KyCells, decide_eq_false hjt, wrap_n1 k (by have := hB.ks; omega)]
    refine Nx_of (k + 1, r) (by simp) ?_
    simp only [go_sem, Nat.reduceEqDiff, Nat.reduceAdd, Nat.reduceLT, Nat.reduceLeDiff, reduceIte, h3, h4, h5, h7]
    refine ⟨trivial, trivial, trivial, trivial, trivial, hd2, _, _, rfl, b0, b1, b2, ?_⟩
    rw [b3, take_snoc' hk1]
    congr 2
    unfold rowB
    refine List.map_congr_left fun i _ => ?_
    have : (decide (f0 ≤ i) && decide (i < j)) = (decide (y.fr ≤ (i : Int)) && decide ((i : Int) ≤ y.to)) := by
     rw [Bool.eq_iff_iff]; simp; omega
    dsimp only
    rw [this]
    simp [openB, List.any_append, hop]
theorem openRow_in {l : Lb} (hV : LibV l) (c : Cm) (s : Sv) {i : Nat} (hi : i < 10000) : (!c.locked || openB l c s l.keys i) = inSb (placeP l c s).opn i := by
 rw [Bool.eq_iff_iff, inSb_iff, place_open hV]
 cases hl : c.locked
 ·simp; omega
 ·simp only [Bool.not_true, Bool.false_or, if_pos]
  unfold openB
  rw [List.any_eq_true]
  constructor
  ·rintro ⟨k, hk, h⟩
   rw [opR_eq, Bool.and_eq_true, Bool.and_eq_true, Bool.and_eq_true, decide_eq_true_eq, decide_eq_true_eq] at h
   exact ⟨k, (mem_opens l c s k).2 ⟨hk, h.1.2, h.1.1⟩, h.2⟩
  ·rintro ⟨k, hk, h⟩
   obtain ⟨h1, h2, h3⟩ := (mem_opens l c s k).1 hk
   refine ⟨k, h1, ?_⟩
   rw [opR_eq, h2, h3]
   simpa using h
theorem encR_idx {n : Nat} (f : Nat → Bool) {i : Nat} (h : i < n) (m : Mem) : idxAt m (encR n f) (I64 (i : Int)) 1 = some (.pv (.bool (f i)) 0) := by
 unfold encR
 rw [idxAt_sl, if_pos (by omega), Int.toNat_natCast, rowB_get f h]
 rfl
theorem Kept.len {bl bl' : List Blk} (h : Kept (fun _ => False) bl bl') : bl.length ≤ bl'.length := by
 cases hb : bl.length with
 | zero => exact Nat.zero_le _
 | succ n => exact (List.getElem?_eq_some_iff.1 (h n _ (fun h => h) (List.getElem?_eq_getElem (by omega)))).1
theorem LibR.cells {p : Nat → Prop} {bl : List Blk} {l : Lb} {A C V Y R : AV} (h : LibR p bl l A C V Y R) : (A.cells = [A] ∧ A.solid = true ∧ A.isAgg = false) ∧ (C.cells = [C] ∧ C.solid = true ∧ C.isAgg = false) ∧ (V.cells = [V] ∧ V.solid = true ∧ V.isAgg = false) ∧ (Y.cells = [Y] ∧ Y.solid = true ∧ Y.isAgg = false) ∧ (R.cells = [R] ∧ R.solid = true ∧ R.isAgg = false) := by
 obtain ⟨h1, ⟨es, h2, _⟩, ⟨fs, h4, _⟩, ⟨gs, h6, _⟩, h8⟩ := h
 exact ⟨h1.cells, h2.cells, h4.cells, h6.cells, h8.cells⟩
def AccG (T : Nat) (es : List AV) (v : AV) (tk : List (Nat × Nat)) : Prop := (es = [] ∧ v = .sl [] .tight) ∨ (es ≠ [] ∧ ∃ t, v = .sl es (.at t) ∧ tk[t]? = some (es.length, T))
theorem AccG.app {T sz bytes : Nat} {es : List AV} {v : AV} {tk : List (Nat × Nat)} (h : AccG T es v tk) (y : AV) (tk0 : Tk) (bl : List Blk) (hs : ∀ e ∈ es, e.cells.length = sz) (hy : y.cells.length = sz) (hl : (es.length + 1) * (bytes + 1) ≤ limit) :
  ∃ v' tk', appendAt ⟨bl, tk⟩ false v (.sl [y] tk0) T sz bytes = some (v', ⟨bl, tk'⟩) ∧ AccG T (es ++ [y]) v' tk' := by
 have h1 : hdSz [y] sz = true := by simp [hdSz, hy]
 have h2 : hdSz es sz = true := by
  cases es with
  | nil => rfl
  | cons e r => simp [hdSz, hs e (by simp)]
 rcases h with ⟨rfl, rfl⟩ | ⟨hne, t, rfl, ht⟩
 ·refine ⟨.sl [y] (.at tk.length), tk ++ [(1, T)], ?_, .inr ⟨by simp, tk.length, rfl, by simp⟩⟩
  simp only [appendAt, Mem.elems, h1]
  rw [if_neg (by simp), if_pos ⟨by simpa using hl, rfl⟩]
  rfl
 ·have hlt : t < tk.length := (List.getElem?_eq_some_iff.1 ht).1
  have h0 : es.length ≠ 0 := fun h => hne (List.eq_nil_of_length_eq_zero h)
  refine ⟨.sl (es ++ [y]) (.at t), tk.set t (es.length + 1, T), ?_, .inr ⟨by simp, t, rfl, by simp [hlt]⟩⟩
  simp only [appendAt, Mem.elems, h1]
  rw [if_neg (by simp), if_pos ⟨by simpa using hl, h2⟩, if_neg (by simp)]
  simp only [appTk, List.length_singleton]
  rw [if_neg (by simp), if_pos ⟨ht, h0⟩]
  rfl
theorem AccG.cells {T : Nat} {es : List AV} {v : AV} {tk : List (Nat × Nat)} (h : AccG T es v tk) : v.cells = [v] ∧ v.solid = true ∧ v.isAgg = false := by
 rcases h with ⟨rfl, rfl⟩ | ⟨_, _, rfl, _⟩ <;> exact ⟨rfl, rfl, rfl⟩
theorem AccG.sl {T : Nat} {es : List AV} {v : AV} {tk : List (Nat × Nat)} (h : AccG T es v tk) : ∃ q, v = .sl es q := by
 rcases h with ⟨rfl, rfl⟩ | ⟨_, _, rfl, _⟩
 ·exact ⟨_, rfl⟩
 ·exact ⟨_, rfl⟩
def IV (p : Nat → Prop) (es : List AV) (sz : Nat) (v : AV) (bl : List Blk) : Prop := RS p es sz v bl ∨ ∃ q, v = .sl es q
def SvM (p : Nat → Prop) (bl : List Blk) (s : Sv) (e : AV) : Prop := ∃ v w, e = .agg [I64 s.id, v, w] ∧ IV p (s.devs.map fun n => I64 n) 1 v bl ∧ IV p (s.files.map encF) 2 w bl
theorem IV.snap {p q : Nat → Prop} {es : List AV} {sz : Nat} {v : AV} {bl bl' : List Blk} {tk : List (Nat × Nat)} (h : IV p es sz v bl) (k : Stp p q bl bl') (n : Nat) : Ab.snap ⟨bl', tk⟩ (n + 1) v = .sl (es.map (Ab.snap ⟨bl', tk⟩ n)) .unk := by
 rcases h with h | ⟨t, rfl⟩
 ·exact (h.stp k).snap n
 ·rfl
theorem SvM.snap {p r : Nat → Prop} {bl bl' : List Blk} {tk : List (Nat × Nat)} (k : Stp p r bl bl') (q : Nat) (x : Sv) (e : AV) (h : SvM p bl x e) : Ab.snap ⟨bl', tk⟩ (q + 4) e = encV x := by
 obtain ⟨v, w, rfl, h2, h3⟩ := h
 simp only [snap_agg, List.map_cons, List.map_nil, snap_int, h2.snap k, h3.snap k, ints_snap, files_snap]; rfl
theorem set_at {α : Type} (a b : List α) (x y : α) {k : Nat} (h : a.length = k) : (a ++ x :: b).set k y = a ++ y :: b := by
 subst h; simp
def FA {α β : Type} (R : α → β → Prop) : List α → List β → Prop
 | [], [] => True
 | x :: xs, y :: ys => R x y ∧ FA R xs ys
 | _, _ => False
theorem FA.snoc {α β : Type} {R : α → β → Prop} {x : α} {y : β} (hx : R x y) : ∀ {xs : List α} {ys : List β}, FA R xs ys → FA R (xs ++ [x]) (ys ++ [y])
 | [], [], _ => ⟨hx, trivial⟩
 | [], _ :: _, h => h.elim
 | _ :: _, [], h => h.elim
 | _ :: _, _ :: _, h => ⟨h.1, FA.snoc hx h.2⟩
theorem FA.len {α β : Type} {R : α → β → Prop} : ∀ {xs : List α} {ys : List β}, FA R xs ys → ys.length = xs.length
 | [], [], _ => rfl
 | [], _ :: _, h => h.elim
 | _ :: _, [], h => h.elim
 | _ :: _, _ :: _, h => by simp [FA.len h.2]
theorem FA.mem {α β : Type} {R : α → β → Prop} : ∀ {xs : List α} {ys : List β}, FA R xs ys → ∀ y ∈ ys, ∃ x ∈ xs, R x y
 | [], [], _, y, h => by cases h
 | [], _ :: _, h, _, _ => h.elim
 | _ :: _, [], h, _, _ => h.elim
 | x :: xs, z :: ys, h, y, hy => by
  rcases List.mem_cons.1 hy with rfl | hy
  ·exact ⟨x, by simp, h.1⟩
  ·obtain ⟨a, b, c⟩ := FA.mem h.2 y hy
   exact ⟨a, by simp [b], c⟩
theorem minOf_snoc {l : List Ky} (h : l ≠ []) (x : Ky) : minOf (l ++ [x]) = if x.id < (minOf l).id then x else minOf l := by
 cases l with
 | nil => exact absurd rfl h
 | cons y r =>
  show minK y (r ++ [x]) = _
  unfold minK
  rw [List.foldl_append]
  rfl
def FstOK (l : Lb) (c : Cm) (k : Nat) (f : Int) : Prop := (f = -1 ∧ (l.keys.take k).filter (keepK l c) = []) ∨ ∃ (i : Nat) (x : Ky), f = i ∧ i < k ∧ l.keys[i]? = some x ∧ (l.keys.take k).filter (keepK l c) ≠ [] ∧ minOf ((l.keys.take k).filter (keepK l c)) = x
theorem FstOK.skip {l : Lb} {c : Cm} {k : Nat} {f : Int} {x : Ky} (hx : l.keys[k]? = some x) (hk : keepK l c x = false) (h : FstOK l c k f) : FstOK l c (k + 1) f := by
 unfold FstOK
 rw [take_filter hx, hk]
 simp only [Bool.false_eq_true, if_false, List.append_nil]
 rcases h with h | ⟨i, y, h1, h2, h3, h4, h5⟩
 ·exact .inl h
 ·exact .inr ⟨i, y, h1, by omega, h3, h4, h5⟩
theorem FstOK.new {l : Lb} {c : Cm} {k : Nat} {x : Ky} (hx : l.keys[k]? = some x) (hk : keepK l c x = true) (h : FstOK l c k (-1)) : FstOK l c (k + 1) k := by
 unfold FstOK
 rw [take_filter hx, hk]
 rcases h with ⟨_, h⟩ | ⟨i, y, h1, _⟩
 ·rw [h]
  exact .inr ⟨k, x, rfl, by omega, hx, by simp, rfl⟩
 ·omega
theorem FstOK.next {l : Lb} {c : Cm} {k i : Nat} {x y : Ky} (hx : l.keys[k]? = some x) (hk : keepK l c x = true) (hy : l.keys[i]? = some y) (h : FstOK l c k i) : FstOK l c (k + 1) (if x.id < y.id then (k : Int) else i) := by
 unfold FstOK
 rw [take_filter hx, hk]
 rcases h with ⟨h, _⟩ | ⟨j, z, h1, h2, h3, h4, h5⟩
 ·omega
 ·obtain rfl : i = j := by omega
  rw [hy] at h3; cases h3
  simp only [if_pos]
  right
  rw [minOf_snoc h4, h5]
  by_cases hc : x.id < y.id
  ·rw [if_pos hc, if_pos hc]; exact ⟨k, x, rfl, by omega, hx, by simp, rfl⟩
  ·rw [if_neg hc, if_neg hc]; exact ⟨i, y, rfl, by omega, hy, by simp, rfl⟩
section
variable {l : Lb} {c : Cm} {s : Sv} {fr : Int}
theorem can_opens (hV : LibV l) (m0 : 1 ≤ c.mins) (hl : c.locked = true) (ho : opensP l c s = []) : canP (placeP l c s) fr = false := by
 cases h : canP (placeP l c s) fr
 ·rfl
 ·have := ((canP_open (p := placeP l c s) (place_NF hV c s) m0 fr).1 h).2 fr (Int.le_refl _) (by show fr < fr + c.mins; omega)
  rw [place_open hV, if_pos hl, ho] at this
  obtain ⟨k, hk, _⟩ := this
  cases hk
theorem why2 (hV : LibV l) (m0 : 1 ≤ c.mins) (hmi : (placeP l c s).miss = []) (hl : c.locked = true) (hk : keysP l c = []) : whyP (placeP l c s) fr = (2, -1) := by
 have ho : opensP l c s = [] := by unfold opensP; rw [hk]; rfl
 unfold whyP
 rw [can_opens hV m0 hl ho, hmi]
 have h1 : (placeP l c s).locked = true := hl
 have h2 : (placeP l c s).keys = [] := hk
 rw [h1, h2]; rfl
theorem why3 (hV : LibV l) (m0 : 1 ≤ c.mins) (hmi : (placeP l c s).miss = []) (hl : c.locked = true) (hk : keysP l c ≠ []) (ho : opensP l c s = []) : whyP (placeP l c s) fr = (3, (foreignP s.devs (minOf (keysP l c))).1) := by
 unfold whyP
 rw [can_opens hV m0 hl ho, hmi]
 have h1 : (placeP l c s).locked = true := hl
 have h2 : (placeP l c s).opening = [] := ho
 have h3 : (((placeP l c s).keys.length : Int) == 0) = false := by
  rw [beq_eq_false_iff_ne]; intro h
  exact hk (List.eq_nil_of_length_eq_zero (by have : (keysP l c).length = (placeP l c s).keys.length := rfl; omega))
 rw [h1, h2, h3]; rfl
theorem why4 (hmi : (placeP l c s).miss = []) (hn : ¬(c.locked = true ∧ opensP l c s = [])) (hc : canP (placeP l c s) fr = false) : whyP (placeP l c s) fr = (4, shutP (placeP l c s) fr) := by
 unfold whyP
 rw [hc, hmi]
 have h1 : (placeP l c s).locked = c.locked := rfl
 have h2 : (placeP l c s).opening = opensP l c s := rfl
 have h3 : (placeP l c s).keys = keysP l c := rfl
 rw [h1, h2, h3]
 cases hl : c.locked
 ·rfl
 ·have ho : opensP l c s ≠ [] := fun h => hn ⟨hl, h⟩
  have hk : keysP l c ≠ [] := fun h => ho (by unfold opensP; rw [h]; rfl)
  have e1 : (((opensP l c s).length : Int) == 0) = false := by
   rw [beq_eq_false_iff_ne]; intro h; exact ho (List.eq_nil_of_length_eq_zero (by omega))
  have e2 : (((keysP l c).length : Int) == 0) = false := by
   rw [beq_eq_false_iff_ne]; intro h; exact hk (List.eq_nil_of_length_eq_zero (by omega))
  rw [e1, e2]; rfl
end
theorem whyR_ok (l : Lb) (c : Cm) (s : Sv) (fr : Int) (hB : LbB l) (hV : LibV l) (hcm : c ∈ l.comps) (hsm : s ∈ l.screens) (h0 : 0 ≤ fr) (h1 : fr ≤ 9999) : RV ft 65 [encL l, encC c, encV s, I64 fr] (.tup [I64 (whyP (placeP l c s) fr).1, I64 (whyP (placeP l c s) fr).2]) := by
 refine RV_of ft65 rfl ?_
 simp only [c65, r65]
 obtain ⟨W, hW⟩ : ∃ W, W = whyP (placeP l c s) fr := ⟨_, rfl⟩
 rw [← hW]
 obtain ⟨m0, m1⟩ := comp_mins hV hcm
 have hPB := place_B hB hV hcm hsm
 have hNF := place_NF hV c s
 have hM := missingR_ok l c s hB (hB.ca _ hcm) (hB.vf _ hsm)
 rw [missR_eq hV hcm hsm] at hM
 have hO := openR_ok l c s hB hV (hB.vd _ hsm)
 have hin := fun (i : Nat) (hi : i < 10000) => openRow_in hV c s hi
 obtain ⟨mi, hmi⟩ : ∃ mi, mi = missP l.assets c.assets s.files := ⟨_, rfl⟩
 have hpm : (placeP l c s).miss = mi := hmi.symm
 rw [← hmi] at hM
 have hml := hPB.ml
 rw [hpm] at hml
 cases mi with
 | cons x r =>
  have hw : W = (1, x) := by
   rw [hW]; unfold whyP
   have : canP (placeP l c s) fr = false := by
    unfold canP; rw [hpm]
    have : (((x :: r).length : Int) == 0) = false := by rw [beq_eq_false_iff_ne]; simp only [List.length_cons]; omega
    rw [this]; rfl
   rw [this, hpm]; rfl
  have hgt : decide ((0 : Int) < ((r.length + 1 : Nat) : Int)) = true := decide_eq_true (by omega)
  have hix : ∀ m, idxAt m (encI (x :: r)) (I64 0) 1 = some (.pv (I64 x) 0) := fun m => encI_idx (k := 0) rfl m
  simp only [go_sem, Nat.reduceEqDiff, Nat.reduceAdd, Nat.reduceLT, Nat.reduceLeDiff, reduceIte, LbCells, LbEta, CmCells, CmEta, SvCells, SvEta, WB63, WVH_eq hM, true_and, hgt, hix, hw]
 | nil =>
 have hgt : decide ((0 : Int) < ((0 : Nat) : Int)) = false := rfl
 have hIr := fun n => In_ok l.recalled n hB.rs
 simp only [go_sem, Nat.reduceEqDiff, Nat.reduceAdd, Nat.reduceLT, Nat.reduceLeDiff, reduceIte, LbCells, LbEta, CmCells, CmEta, SvCells, SvEta, WB63, WVH_eq hM, true_and, hgt]
 have hks := hV.nk
 refine WL_inv (α := Nat × Bool × Int) (fun q e mm => e 4 = .ptr 0 0 0 ∧ e 5 = .ptr 1 0 0 ∧ e 6 = .ptr 2 0 0 ∧ e 3 = I64 fr ∧ e 13 = I64 q.1 ∧ e 12 = .bool q.2.1 ∧ e 11 = I64 q.2.2 ∧ q.1 ≤ l.keys.length ∧ (∃ bl, mm = ⟨bl, []⟩ ∧ bl[0]? = some (.live [encL l] 5) ∧ bl[1]? = some (.live [encC c] 7) ∧ bl[2]? = some (.live [encV s] 3)) ∧ q.2.1 = ((l.keys.take q.1).any fun k => opR l k c s) ∧ FstOK l c q.1 q.2.2) (fun q => l.keys.length - q.1) (0, false, -1) ?_ ?_
 ·simp only [go_sem, Nat.reduceEqDiff, Nat.reduceAdd, Nat.reduceLT, Nat.reduceLeDiff, reduceIte]
  exact ⟨trivial, trivial, trivial, trivial, rfl, trivial, trivial, Nat.zero_le _, ⟨_, rfl, rfl, rfl, rfl⟩, trivial, .inl ⟨rfl, rfl⟩⟩
 rintro ⟨k, op, f⟩ e m ⟨g4, g5, g6, g3, g13, g12, g11, hkn, ⟨bl, rfl, b0, b1, b2⟩, hop, hf⟩
 dsimp only at g13 g12 g11 hkn hop hf
 by_cases hlt : k < l.keys.length
 case pos =>
  obtain ⟨x, hx⟩ : ∃ x, l.keys[k]? = some x := ⟨_, List.getElem?_eq_getElem hlt⟩
  have hxm := List.mem_of_getElem? hx
  have hwx : writeCells (.agg [I64 0, I64 0, .sl [] .tight, I64 0, I64 0]) 0 [I64 x.id, I64 x.comp, encI x.devs, I64 x.fr, I64 x.to] = some (encK x) := rfl
  have b0' := fun y => get_app1 b0 y
  have b1' := fun y => get_app1 b1 y
  have b2' := fun y => get_app1 b2 y
  have hwk := wrap_n1 k (by omega)
  have hOp := Opens_ok l x c s (hB.vd _ hsm) (hB.kd x hxm) hB.rs
  have hop' : (op || opR l x c s) = ((l.keys.take (k + 1)).any fun k => opR l k c s) := by rw [take_snoc hx, List.any_append, hop]; simp
  have hnokeep : keepK l c x = false → op = ((l.keys.take (k + 1)).any fun k => opR l k c s) := fun h => by
   rw [← hop', opR_eq, h]; simp
  cases hc1 : (x.comp == c.id)
  case false =>
   have hkp : keepK l c x = false := by unfold keepK; rw [hc1]; rfl
   simp only [go_sem, Nat.reduceEqDiff, Nat.reduceAdd, Nat.reduceLT, Nat.reduceLeDiff, reduceIte, g4, g5, g6, g3, g13, g12, g11, b0, b1, b2, b0', b1', b2', LbCells, dec_lt hlt, encYs_idx hx, KyCells, KyEta, hwx, get_last, set_last, CmCells, hc1, hwk]
   refine Nx_of (k + 1, op, f) (by first | omega | (dsimp only; omega)) ?_
   simp only [go_sem, Nat.reduceEqDiff, Nat.reduceAdd, Nat.reduceLT, Nat.reduceLeDiff, reduceIte, g4, g5, g6, g3, g12, g11]
   exact ⟨trivial, trivial, trivial, trivial, trivial, trivial, trivial, hlt, ⟨_, rfl, b0' _, b1' _, b2' _⟩, hnokeep hkp, hf.skip hx hkp⟩
  cases hc2 : (l.recalled.any (· == x.id))
  case true =>
   have hkp : keepK l c x = false := by unfold keepK; rw [hc1, hc2]; rfl
   simp only [go_sem, Nat.reduceEqDiff, Nat.reduceAdd, Nat.reduceLT, Nat.reduceLeDiff, reduceIte, g4, g5, g6, g3, g13, g12, g11, b0, b1, b2, b0', b1', b2', LbCells, dec_lt hlt, encYs_idx hx, KyCells, KyEta, hwx, get_last, set_last, CmCells, hc1, WB26, WVH_eq (hIr x.id), hc2, Bool.not_true, true_and, hwk]
   refine Nx_of (k + 1, op, f) (by first | omega | (dsimp only; omega)) ?_
   simp only [go_sem, Nat.reduceEqDiff, Nat.reduceAdd, Nat.reduceLT, Nat.reduceLeDiff, reduceIte, g4, g5, g6, g3, g12, g11]
   exact ⟨trivial, trivial, trivial, trivial, trivial, trivial, trivial, hlt, ⟨_, rfl, b0' _, b1' _, b2' _⟩, hnokeep hkp, hf.skip hx hkp⟩
  have hkp : keepK l c x = true := by unfold keepK; rw [hc1, hc2]; rfl
  have hfc := hf
  rcases hf with ⟨rfl, _⟩ | ⟨i, y, rfl, hik, hy, _, _⟩
  ·have hm1 : decide ((-1 : Int) < 0) = true := rfl
   cases op
   ·simp only [go_sem, Nat.reduceEqDiff, Nat.reduceAdd, Nat.reduceLT, Nat.reduceLeDiff, reduceIte, g4, g5, g6, g3, g13, g12, g11, b0, b1, b2, b0', b1', b2', LbCells, LbEta, dec_lt hlt, encYs_idx hx, KyCells, KyEta, hwx, get_last, set_last, CmCells, CmEta, SvCells, SvEta, hc1, WB26, WVH_eq (hIr x.id), hc2, Bool.not_false, true_and, WB66, WVH_eq hOp, hm1, hwk]
    refine Nx_of (k + 1, opR l x c s, k) (by first | omega | (dsimp only; omega)) ?_
    simp only [go_sem, Nat.reduceEqDiff, Nat.reduceAdd, Nat.reduceLT, Nat.reduceLeDiff, reduceIte, g4, g5, g6, g3]
    exact ⟨trivial, trivial, trivial, trivial, trivial, trivial, trivial, hlt, ⟨_, rfl, b0' _, b1' _, b2' _⟩, by rw [← hop']; rfl, hfc.new hx hkp⟩
   ·simp only [go_sem, Nat.reduceEqDiff, Nat.reduceAdd, Nat.reduceLT, Nat.reduceLeDiff, reduceIte, g4, g5, g6, g3, g13, g12, g11, b0, b1, b2, b0', b1', b2', LbCells, LbEta, dec_lt hlt, encYs_idx hx, KyCells, KyEta, hwx, get_last, set_last, CmCells, CmEta, SvCells, SvEta, hc1, WB26, WVH_eq (hIr x.id), hc2, Bool.not_false, true_and, hm1, hwk]
    refine Nx_of (k + 1, true, k) (by first | omega | (dsimp only; omega)) ?_
    simp only [go_sem, Nat.reduceEqDiff, Nat.reduceAdd, Nat.reduceLT, Nat.reduceLeDiff, reduceIte, g4, g5, g6, g3]
    exact ⟨trivial, trivial, trivial, trivial, trivial, trivial, trivial, hlt, ⟨_, rfl, b0' _, b1' _, b2' _⟩, by rw [← hop']; rfl, hfc.new hx hkp⟩
  ·have hm1 : decide ((i : Int) < 0) = false := decide_eq_false (by omega)
   have hfn := hfc.next hx hkp hy
   cases hlq : decide (x.id < y.id) <;> cases op
   ·rw [if_neg (of_decide_eq_false hlq)] at hfn
    simp only [go_sem, Nat.reduceEqDiff, Nat.reduceAdd, Nat.reduceLT, Nat.reduceLeDiff, reduceIte, g4, g5, g6, g3, g13, g12, g11, b0, b1, b2, b0', b1', b2', LbCells, LbEta, dec_lt hlt, encYs_idx hx, encYs_idx hy, KyCells, KyEta, hwx, get_last, set_last, CmCells, CmEta, SvCells, SvEta, hc1, WB26, WVH_eq (hIr x.id), hc2, Bool.not_false, true_and, WB66, WVH_eq hOp, hm1, hlq, hwk]
    refine Nx_of (k + 1, opR l x c s, (i : Int)) (by first | omega | (dsimp only; omega)) ?_
    simp only [go_sem, Nat.reduceEqDiff, Nat.reduceAdd, Nat.reduceLT, Nat.reduceLeDiff, reduceIte, g4, g5, g6, g3, g11]
    exact ⟨trivial, trivial, trivial, trivial, trivial, trivial, trivial, hlt, ⟨_, rfl, b0' _, b1' _, b2' _⟩, by rw [← hop']; rfl, hfn⟩
   ·rw [if_neg (of_decide_eq_false hlq)] at hfn
    simp only [go_sem, Nat.reduceEqDiff, Nat.reduceAdd, Nat.reduceLT, Nat.reduceLeDiff, reduceIte, g4, g5, g6, g3, g13, g12, g11, b0, b1, b2, b0', b1', b2', LbCells, LbEta, dec_lt hlt, encYs_idx hx, encYs_idx hy, KyCells, KyEta, hwx, get_last, set_last, CmCells, CmEta, SvCells, SvEta, hc1, WB26, WVH_eq (hIr x.id), hc2, Bool.not_false, true_and, hm1, hlq, hwk]
    refine Nx_of (k + 1, true, (i : Int)) (by first | omega | (dsimp only; omega)) ?_
    simp only [go_sem, Nat.reduceEqDiff, Nat.reduceAdd, Nat.reduceLT, Nat.reduceLeDiff, reduceIte, g4, g5, g6, g3, g11]
    exact ⟨trivial, trivial, trivial, trivial, trivial, trivial, trivial, hlt, ⟨_, rfl, b0' _, b1' _, b2' _⟩, by rw [← hop']; rfl, hfn⟩
   ·rw [if_pos (of_decide_eq_true hlq)] at hfn
    simp only [go_sem, Nat.reduceEqDiff, Nat.reduceAdd, Nat.reduceLT, Nat.reduceLeDiff, reduceIte, g4, g5, g6, g3, g13, g12, g11, b0, b1, b2, b0', b1', b2', LbCells, LbEta, dec_lt hlt, encYs_idx hx, encYs_idx hy, KyCells, KyEta, hwx, get_last, set_last, CmCells, CmEta, SvCells, SvEta, hc1, WB26, WVH_eq (hIr x.id), hc2, Bool.not_false, true_and, WB66, WVH_eq hOp, hm1, hlq, hwk]
    refine Nx_of (k + 1, opR l x c s, (k : Int)) (by first | omega | (dsimp only; omega)) ?_
    simp only [go_sem, Nat.reduceEqDiff, Nat.reduceAdd, Nat.reduceLT, Nat.reduceLeDiff, reduceIte, g4, g5, g6, g3, g11]
    exact ⟨trivial, trivial, trivial, trivial, trivial, trivial, trivial, hlt, ⟨_, rfl, b0' _, b1' _, b2' _⟩, by rw [← hop']; rfl, hfn⟩
   ·rw [if_pos (of_decide_eq_true hlq)] at hfn
    simp only [go_sem, Nat.reduceEqDiff, Nat.reduceAdd, Nat.reduceLT, Nat.reduceLeDiff, reduceIte, g4, g5, g6, g3, g13, g12, g11, b0, b1, b2, b0', b1', b2', LbCells, LbEta, dec_lt hlt, encYs_idx hx, encYs_idx hy, KyCells, KyEta, hwx, get_last, set_last, CmCells, CmEta, SvCells, SvEta, hc1, WB26, WVH_eq (hIr x.id), hc2, Bool.not_false, true_and, hm1, hlq, hwk]
    refine Nx_of (k + 1, true, (k : Int)) (by first | omega | (dsimp only; omega)) ?_
    simp only [go_sem, Nat.reduceEqDiff, Nat.reduceAdd, Nat.reduceLT, Nat.reduceLeDiff, reduceIte, g4, g5, g6, g3, g11]
    exact ⟨trivial, trivial, trivial, trivial, trivial, trivial, trivial, hlt, ⟨_, rfl, b0' _, b1' _, b2' _⟩, by rw [← hop']; rfl, hfn⟩
 obtain rfl : k = l.keys.length := by omega
 rw [List.take_length] at hop
 unfold FstOK at hf
 rw [List.take_length] at hf
 have hopT : op = true → opensP l c s ≠ [] := fun h e => by
  rw [h, eq_comm, List.any_eq_true] at hop
  obtain ⟨k, hk, h2⟩ := hop
  rw [opR_eq, Bool.and_eq_true] at h2
  have := (mem_opens l c s k).2 ⟨hk, h2.2, h2.1⟩
  rw [e] at this; cases this
 have hopF : op = false → opensP l c s = [] := fun h => by
  rw [h, eq_comm, List.any_eq_false] at hop
  refine List.eq_nil_iff_forall_not_mem.2 fun k hk => ?_
  obtain ⟨h1, h2, h3⟩ := (mem_opens l c s k).1 hk
  exact hop k h1 (by rw [opR_eq, h2, h3]; rfl)
 have hdev : 1 ≤ s.devs.length := by
  have := okFrom_mem hV.sc hsm
  simp only [screenOK, Bool.and_eq_true, inR, decide_eq_true_eq] at this
  omega
 have hsd := hB.vd _ hsm
 have hd0 : decide (((0 : Nat) : Int) < (s.devs.length : Int)) = true := decide_eq_true (by omega)
 have hend : ∀ n, fr ≤ n → n < fr + c.mins → (∀ m, fr ≤ m → m < n → inSp (placeP l c s).opn m) → ¬inSp (placeP l c s).opn n → ¬(c.locked = true ∧ opensP l c s = []) → W = (4, n) := fun n q1 q2 q3 q4 q5 => by
  obtain ⟨e1, e2, e3⟩ := shut_spec hNF fr
  have hs : shutP (placeP l c s) fr = n := by
   rcases Int.lt_trichotomy (shutP (placeP l c s) fr) n with h | h | h
   ·exact absurd (q3 _ e1 h) e2
   ·exact h
   ·exact absurd (e3 n q1 h) q4
  have hc : canP (placeP l c s) fr = false := by
   cases h : canP (placeP l c s) fr
   ·rfl
   ·have := ((canP_iff _ _).1 h).2
    have hm : (placeP l c s).mins = c.mins := rfl
    omega
  rw [hW, why4 hpm q5 hc, hs]
 have hfin : (∀ m, fr ≤ m → m < fr + c.mins → inSp (placeP l c s).opn m) → W = (0, fr + c.mins - 1) := fun q => by
  have hc : canP (placeP l c s) fr = true := (canP_open hNF m0 fr).2 ⟨hpm, q⟩
  rw [hW]; unfold whyP; rw [hc]; rfl
 have htop : ∀ x, inSp (placeP l c s).opn x → x ≤ 9999 := fun x ⟨t, ht, _, h5⟩ => by have := (hPB.os t ht).2; omega
 obtain ⟨N, hN⟩ : ∃ N, N = 10000 := ⟨_, rfl⟩
 rw [← hN] at hO hin
 obtain ⟨F, hF⟩ : ∃ F : Nat → Bool, F = fun i => !c.locked || openB l c s l.keys i := ⟨_, rfl⟩
 rw [← hF] at hO
 have hfi : ∀ i, i < N → (F i = true ↔ inSp (placeP l c s).opn i) := fun i hi => by rw [← inSb_iff, ← hin i hi, hF]
 clear hin hF hM hIr
 have hlo : (c.locked = true ∧ f = -1) ∨ (c.locked = true ∧ f ≠ -1) ∨ c.locked = false := by
  cases c.locked <;> by_cases h : f = -1 <;> simp [h]
 rcases hlo with ⟨hl, rfl⟩ | ⟨hl, hfn⟩ | hl
 case' inl =>
  have hm1 : decide ((-1 : Int) < 0) = true := rfl
  have hk0 : keysP l c = [] := by
   rcases hf with ⟨_, h⟩ | ⟨i, y, h, _⟩
   ·exact h
   ·omega
  have hw : W = (2, -1) := by rw [hW, why2 hV m0 hpm hl hk0]
  simp only [go_sem, Nat.reduceEqDiff, Nat.reduceAdd, Nat.reduceLT, Nat.reduceLeDiff, reduceIte, g4, g5, g6, g3, g13, g12, g11, b0, b1, b2, LbCells, dec_ge (Nat.le_refl l.keys.length), CmCells, hl, hm1, hw]
 case' inr.inl =>
  have hf0 : decide (f < 0) = false := by
   rcases hf with ⟨h, _⟩ | ⟨i, y, h, _⟩
   ·exact absurd h hfn
   ·exact decide_eq_false (by omega)
  have hfl : c.locked = true → ∃ (i : Nat) (y : Ky), f = i ∧ l.keys[i]? = some y ∧ keysP l c ≠ [] ∧ minOf (keysP l c) = y := fun _ => by
   rcases hf with ⟨h, _⟩ | ⟨i, y, q1, _, q2, q3, q4⟩
   ·exact absurd h hfn
   ·exact ⟨i, y, q1, q2, q3, q4⟩
  simp only [go_sem, Nat.reduceEqDiff, Nat.reduceAdd, Nat.reduceLT, Nat.reduceLeDiff, reduceIte, g4, g5, g6, g3, g13, g12, g11, b0, b1, b2, LbCells, dec_ge (Nat.le_refl l.keys.length), CmCells, hl, hf0]
 case' inr.inr =>
  have hfl : c.locked = true → ∃ (i : Nat) (y : Ky), f = i ∧ l.keys[i]? = some y ∧ keysP l c ≠ [] ∧ minOf (keysP l c) = y := fun h => by rw [hl] at h; cases h
  simp only [go_sem, Nat.reduceEqDiff, Nat.reduceAdd, Nat.reduceLT, Nat.reduceLeDiff, reduceIte, g4, g5, g6, g3, g13, g12, g11, b0, b1, b2, LbCells, dec_ge (Nat.le_refl l.keys.length), CmCells, hl]
 all_goals
  refine WL_inv (α := Nat × List Int) (fun q e mm => e 4 = .ptr 0 0 0 ∧ e 5 = .ptr 1 0 0 ∧ e 6 = .ptr 2 0 0 ∧ e 3 = I64 fr ∧ e 15 = I64 q.1 ∧ e 12 = .bool op ∧ e 11 = I64 f ∧ mm = ⟨bl, []⟩ ∧ s.devs.drop q.1 = q.2 ∧ (c.locked = false ∨ op = true → q.1 = 0) ∧ (c.locked = true → foreignP q.2 (minOf (keysP l c)) = foreignP s.devs (minOf (keysP l c)))) (fun q => q.2.length) (0, s.devs) ?_ ?_
  ·simp only [go_sem, Nat.reduceEqDiff, Nat.reduceAdd, Nat.reduceLT, Nat.reduceLeDiff, reduceIte, g4, g5, g6, g3, g12, g11]
   exact ⟨trivial, trivial, trivial, trivial, rfl, trivial, trivial, trivial, trivial, fun _ => trivial, fun _ => trivial⟩
  clear g4 g5 g6 g3 g13 g12 g11 e hf
  rintro ⟨j, r⟩ e m ⟨g4, g5, g6, g3, g15, g12, g11, rfl, hd, hj0, hfo⟩
  dsimp only at g15 hd hj0 hfo
  have hex : (c.locked = true ∧ op = false) ∨ ((c.locked = false ∨ op = true) ∧ ¬(c.locked = true ∧ opensP l c s = [])) := by
   cases h1 : c.locked <;> cases h2 : op
   ·exact .inr ⟨.inl rfl, fun h => by cases h.1⟩
   ·exact .inr ⟨.inl rfl, fun h => by cases h.1⟩
   ·exact .inl ⟨rfl, rfl⟩
   ·exact .inr ⟨.inr rfl, fun h => hopT h2 h.2⟩
  rcases hex with ⟨hl1, hof⟩ | ⟨hex, hnr⟩
  ·obtain ⟨i, y, hfi0, hy, hkn, hmin⟩ := hfl hl1
   have hfor := not_opens (s := s) (minOf_mem hkn) (hopF hof)
   have hfo := hfo hl1
   rw [hmin] at hfo hfor
   cases r with
   | nil => rw [← hfo] at hfor; cases hfor
   | cons d r =>
    obtain ⟨hk, hd2, hlt⟩ := drop_cons hd
    have hym := List.mem_of_getElem? hy
    have hIy := In_ok y.devs d (hB.kd y hym)
    cases hid : (y.devs.any (· == d))
    ·have hw : W = (3, d) := by
      rw [hW, why3 hV m0 hpm hl1 hkn (hopF hof), hmin, ← hfo]
      unfold foreignP findP
      rw [if_pos (by rw [hid]; rfl)]
     simp only [go_sem, Nat.reduceEqDiff, Nat.reduceAdd, Nat.reduceLT, Nat.reduceLeDiff, reduceIte, g4, g5, g6, g3, g15, g12, g11, hfi0, hof, b0, b1, b2, LbCells, SvCells, CmCells, hl1, dec_lt hlt, Bool.not_false, encYs_idx hy, KyCells, encI_idx hk, WB26, WVH_eq hIy, hid, true_and, hw]
    ·have hfo2 : foreignP r y = foreignP s.devs y := by
      rw [← hfo]
      conv => rhs; unfold foreignP findP
      rw [if_neg (by rw [hid]; decide)]
      rfl
     simp only [go_sem, Nat.reduceEqDiff, Nat.reduceAdd, Nat.reduceLT, Nat.reduceLeDiff, reduceIte, g4, g5, g6, g3, g15, g12, g11, hfi0, hof, b0, b1, b2, LbCells, SvCells, CmCells, hl1, dec_lt hlt, Bool.not_false, Bool.not_true, encYs_idx hy, KyCells, encI_idx hk, WB26, WVH_eq hIy, hid, true_and, wrap_n1 j (by omega)]
     refine Nx_of (j + 1, r) (by simp) ?_
     simp only [go_sem, Nat.reduceEqDiff, Nat.reduceAdd, Nat.reduceLT, Nat.reduceLeDiff, reduceIte, g4, g5, g6, g3, g12, g11, hfi0, hof]
     exact ⟨trivial, trivial, trivial, trivial, trivial, trivial, trivial, trivial, hd2, fun h => by rw [hl1] at h; simp at h, fun _ => by rw [hmin]; exact hfo2⟩
  obtain rfl := hj0 hex
  have hw9 : ∀ n : Int, fr ≤ n → n ≤ fr + c.mins → IntKind.i64.wrap (n + 1) = n + 1 := fun n q1 q2 => wrap_i64 _ (by omega) (by omega)
  have wfm : IntKind.i64.wrap (fr + c.mins) = fr + c.mins := wrap_i64 _ (by omega) (by omega)
  have wfm1 : IntKind.i64.wrap (fr + c.mins - 1) = fr + c.mins - 1 := wrap_i64 _ (by omega) (by omega)
  have hnt : c.locked = true → op = true := fun h => hex.elim (fun h1 => by rw [h] at h1; cases h1) fun h1 => h1
  cases hl5 : c.locked
  case' true =>
   have ho5 := hnt hl5
   have hce : AV.agg [I64 c.id, I64 c.film, I64 c.tongue, I64 c.subs, I64 c.mins, .bool true, encI c.assets] = encC c := by rw [← hl5]; rfl
  case' false =>
   have ho5 := rfl (a := op)
   have hce : AV.agg [I64 c.id, I64 c.film, I64 c.tongue, I64 c.subs, I64 c.mins, .bool false, encI c.assets] = encC c := by rw [← hl5]; rfl
  all_goals
   simp only [go_sem, Nat.reduceEqDiff, Nat.reduceAdd, Nat.reduceLT, Nat.reduceLeDiff, reduceIte, g4, g5, g6, g3, g15, g12, g11, b0, b1, b2, LbCells, LbEta, SvCells, SvEta, CmCells, CmEta, hl5, hce, hd0, ho5, Bool.not_true, WB64, WVH_eq hO, true_and]
   refine WL_inv (α := Int) (fun n e mm => e 3 = I64 fr ∧ e 5 = .ptr 1 0 0 ∧ e 16 = encR N F ∧ e 17 = I64 n ∧ mm = ⟨bl, []⟩ ∧ fr ≤ n ∧ n ≤ fr + c.mins ∧ ∀ m, fr ≤ m → m < n → inSp (placeP l c s).opn m) (fun n => (fr + c.mins - n).toNat) fr ?_ ?_
   ·simp only [go_sem, Nat.reduceEqDiff, Nat.reduceAdd, Nat.reduceLT, Nat.reduceLeDiff, reduceIte, g3, g5]
    exact ⟨trivial, trivial, trivial, trivial, trivial, Int.le_refl _, by omega, fun m q1 q2 => by omega⟩
   clear g4 g5 g6 g3 g15 g12 g11 e
   rintro n e m ⟨g3, g5, g16, g17, rfl, hn0, hn1, hall⟩
   by_cases hlt : n < fr + c.mins
   case neg =>
    obtain rfl : n = fr + c.mins := by omega
    have hw := hfin hall
    have hdn : decide (fr + c.mins < fr + c.mins) = false := decide_eq_false (by omega)
    simp only [go_sem, Nat.reduceEqDiff, Nat.reduceAdd, Nat.reduceLT, Nat.reduceLeDiff, reduceIte, g3, g5, g16, g17, b1, CmCells, wfm, wfm1, hdn, hw]
   have hdn : decide (n < fr + c.mins) = true := decide_eq_true hlt
   by_cases h9 : 9999 < n
   ·have hw := hend n hn0 hlt hall (fun h => by have := htop n h; omega) hnr
    simp only [go_sem, Nat.reduceEqDiff, Nat.reduceAdd, Nat.reduceLT, Nat.reduceLeDiff, reduceIte, g3, g5, g16, g17, b1, CmCells, wfm, hdn, decide_eq_true h9, hw]
   obtain ⟨i, hi⟩ : ∃ i : Nat, n = i := ⟨n.toNat, by omega⟩
   subst hi
   have hiN : i < N := by omega
   have hwn := hw9 i hn0 (by omega)
   cases hFi : F i
   ·have hw := hend i hn0 hlt hall (fun h => by rw [(hfi i hiN).2 h] at hFi; cases hFi) hnr
    simp only [go_sem, Nat.reduceEqDiff, Nat.reduceAdd, Nat.reduceLT, Nat.reduceLeDiff, reduceIte, g3, g5, g16, g17, b1, CmCells, wfm, hdn, decide_eq_false h9, encR_idx F hiN, hFi, Bool.not_false, hw]
   ·simp only [go_sem, Nat.reduceEqDiff, Nat.reduceAdd, Nat.reduceLT, Nat.reduceLeDiff, reduceIte, g3, g5, g16, g17, b1, CmCells, wfm, hdn, decide_eq_false h9, encR_idx F hiN, hFi, Bool.not_true, hwn]
    refine Nx_of ((i : Int) + 1) (by omega) ?_
    simp only [go_sem, Nat.reduceEqDiff, Nat.reduceAdd, Nat.reduceLT, Nat.reduceLeDiff, reduceIte, g3, g5, g16]
    refine ⟨trivial, trivial, trivial, trivial, trivial, by omega, by omega, fun m q1 q2 => ?_⟩
    by_cases hmi2 : m = i
    ·rw [hmi2]; exact (hfi i hiN).1 hFi
    ·exact hall m q1 (by omega)
theorem nan_ok (a : Int) : RV ft 115 [I64 a] (.bool false) := by
 refine RV_of ft115 rfl ?_
 simp only [c115, r115]
 have h : (a != a) = false := by simp
 simp only [go_sem, Nat.reduceEqDiff, Nat.reduceAdd, Nat.reduceLT, Nat.reduceLeDiff, reduceIte, h]
theorem less_ok (a b : Int) : RV ft 148 [I64 a, I64 b] (.bool (decide (a < b))) := by
 refine RV_of ft148 rfl ?_
 simp only [c148, r148]
 simp only [go_sem, Nat.reduceEqDiff, Nat.reduceAdd, Nat.reduceLT, Nat.reduceLeDiff, reduceIte, WB115, WVH_eq (nan_ok a), true_and]
theorem ins_ok {id n : Nat} {bl : List Blk} {tk : List (Nat × Nat)} {ls : List Int} (hid : id < bl.length) (hl : ls.length = n) (hn : n < 1073741824) (K : AV → Mem → Prop)
  (hK : ∀ ls' : List Int, ls'.Perm ls → ls'.Pairwise (· ≤ ·) → K (.tup []) ⟨bl.set id (.live (ls'.map fun n => I64 n) 1), tk⟩) : WR ft (.f 142) [.ref id 0 n, I64 0, I64 n] ⟨bl.set id (.live (ls.map fun n => I64 n) 1), tk⟩ K := by
 rw [WR_f ft142 rfl]
 simp only [c142, r142]
 have w1 : IntKind.i64.wrap ((0 : Int) + 1) = 1 := rfl
 have yV : ∀ es, (bl.set id (.live es 1))[id]? = some (.live es 1) := fun es => List.getElem?_set_self hid
 have hix : ∀ (k : Nat) es tk, k < n → idxAt ⟨bl.set id (.live es 1), tk⟩ (.ref id 0 n) (I64 (k : Int)) 1 = some (.ptr id k 0) := fun k es tk h => by
  simp only [idxAt, lsz, yV]
  rw [if_pos ⟨⟨by omega, by omega⟩, trivial⟩]
  simp
 simp only [go_sem, Nat.reduceEqDiff, Nat.reduceAdd, Nat.reduceLT, Nat.reduceLeDiff, reduceIte, w1]
 refine WL_inv (α := Nat × List Int) (fun q e mm => e 0 = .ref id 0 n ∧ e 1 = I64 0 ∧ e 2 = I64 n ∧ e 6 = I64 q.1 ∧ 1 ≤ q.1 ∧ mm = ⟨bl.set id (.live (q.2.map fun n => I64 n) 1), tk⟩ ∧ q.2.Perm ls ∧ (q.2.take q.1).Pairwise (· ≤ ·)) (fun q => n + 1 - q.1) (1, ls) ?_ ?_
 ·simp only [go_sem, Nat.reduceEqDiff, Nat.reduceAdd, Nat.reduceLT, Nat.reduceLeDiff, reduceIte]
  refine ⟨trivial, trivial, trivial, rfl, trivial, trivial, List.Perm.refl _, ?_⟩
  cases ls with
  | nil => exact List.Pairwise.nil
  | cons x r => simp
 rintro ⟨i, l1⟩ e m ⟨g0, g1, g2, g6, hi1, rfl, hp, hs⟩
 dsimp only at g6 hi1 hp hs
 have hl1 : l1.length = n := by rw [hp.length_eq, hl]
 by_cases hin : i < n
 case neg =>
  have hd : decide ((i : Int) < (n : Int)) = false := decide_eq_false (by omega)
  simp only [go_sem, Nat.reduceEqDiff, Nat.reduceAdd, Nat.reduceLT, Nat.reduceLeDiff, reduceIte, g0, g1, g2, g6, hd]
  rw [List.take_of_length_le (by omega)] at hs
  exact hK l1 hp hs
 have hd : decide ((i : Int) < (n : Int)) = true := decide_eq_true (by omega)
 obtain ⟨x, hx⟩ : ∃ x, l1[i]? = some x := ⟨_, List.getElem?_eq_getElem (by omega)⟩
 have hsplit : l1 = l1.take i ++ x :: ([] ++ l1.drop (i + 1)) := by
  have h1 : l1.drop i = x :: l1.drop (i + 1) := by
   rw [List.drop_eq_getElem_cons (by omega)]
   rw [List.getElem?_eq_getElem (by omega)] at hx; cases hx; rfl
  rw [List.nil_append, ← h1, List.take_append_drop]
 obtain ⟨C, hC⟩ : ∃ C, C = l1.drop (i + 1) := ⟨_, rfl⟩
 rw [← hC] at hsplit
 have hCl : C.length + i + 1 = n := by rw [hC, List.length_drop]; omega
 simp only [go_sem, Nat.reduceEqDiff, Nat.reduceAdd, Nat.reduceLT, Nat.reduceLeDiff, reduceIte, g0, g1, g2, g6, hd]
 refine WL_inv (α := Nat × List Int × List Int) (fun q e mm => e 0 = .ref id 0 n ∧ e 1 = I64 0 ∧ e 2 = I64 n ∧ e 6 = I64 i ∧ e 7 = I64 q.1 ∧ q.2.1.length = q.1 ∧ q.1 + q.2.2.length = i ∧ mm = ⟨bl.set id (.live ((q.2.1 ++ x :: (q.2.2 ++ C)).map fun n => I64 n) 1), tk⟩ ∧ (q.2.1 ++ q.2.2).Pairwise (· ≤ ·) ∧ (∀ b ∈ q.2.2, x < b) ∧ (q.2.1 ++ x :: (q.2.2 ++ C)).Perm ls) (fun q => q.1) (i, l1.take i, []) ?_ ?_
 ·rw [List.nil_append] at hsplit
  have hlt : (l1.take i).length = i := by rw [List.length_take]; omega
  simp only [go_sem, Nat.reduceEqDiff, Nat.reduceAdd, Nat.reduceLT, Nat.reduceLeDiff, reduceIte, g0, g1, g2, g6, ← hsplit, hlt, Nat.add_zero]
  ((repeat' apply And.intro) <;> first | trivial | rfl | exact hs | exact hp | exact fun b hb => (nomatch hb))
 clear g0 g1 g2 g6 e
 rintro ⟨j, A, B⟩ e m ⟨g0, g1, g2, g6, g7, hA, hAB, rfl, hpw, hB, hpm⟩
 dsimp only at g7 hA hAB hpw hB hpm
 have hwi : IntKind.i64.wrap ((i : Int) + 1) = ((i + 1 : Nat) : Int) := wrap_n1 i (by omega)
 have fin : (∀ a ∈ A, a ≤ x) → (List.take (i + 1) (A ++ x :: (B ++ C))).Pairwise (· ≤ ·) := fun h => by
  have : List.take (i + 1) (A ++ x :: (B ++ C)) = A ++ x :: B := by
   rw [show A ++ x :: (B ++ C) = (A ++ x :: B) ++ C by simp]
   exact List.take_left' (by simp; omega)
  rw [this]
  rw [List.pairwise_append] at hpw ⊢
  refine ⟨hpw.1, List.pairwise_cons.2 ⟨fun b hb => Int.le_of_lt (hB b hb), hpw.2.1⟩, fun a ha b hb => ?_⟩
  rcases List.mem_cons.1 hb with rfl | hb
  ·exact h a ha
  ·exact hpw.2.2 a ha b hb
 rcases List.eq_nil_or_concat A with rfl | ⟨A', y, rfl⟩
 ·obtain rfl : j = 0 := by simpa using hA.symm
  have h0 : decide ((0 : Int) < ((0 : Nat) : Int)) = false := rfl
  simp only [go_sem, Nat.reduceEqDiff, Nat.reduceAdd, Nat.reduceLT, Nat.reduceLeDiff, reduceIte, g0, g1, g2, g6, g7, h0, hwi]
  refine Nx_of (i + 1, [] ++ x :: (B ++ C)) (by dsimp only; omega) ?_
  simp only [go_sem, Nat.reduceEqDiff, Nat.reduceAdd, Nat.reduceLT, Nat.reduceLeDiff, reduceIte, g0, g1, g2]
  exact ⟨trivial, trivial, trivial, trivial, by first | trivial | omega, trivial, hpm, fin fun a ha => by cases ha⟩
 rw [List.concat_eq_append] at hA hpw hpm fin ⊢
 obtain ⟨j, rfl⟩ : ∃ k, j = k + 1 := ⟨j - 1, by simp at hA; omega⟩
 have hA' : A'.length = j := by simpa using hA
 have hjn : j + 1 < n := by omega
 have h0 : decide ((0 : Int) < ((j + 1 : Nat) : Int)) = true := decide_eq_true (by omega)
 have hwj : IntKind.i64.wrap (((j + 1 : Nat) : Int) - 1) = (j : Int) := wrap_p1' j (by omega)
 have hgx : ((A' ++ [y] ++ x :: (B ++ C)).map fun n => I64 n)[j + 1]? = some (I64 x) := by
  rw [List.getElem?_map, List.getElem?_append_right (by omega), hA]; simp
 have hgy : ((A' ++ [y] ++ x :: (B ++ C)).map fun n => I64 n)[j]? = some (I64 y) := by
  rw [List.getElem?_map, List.append_assoc, List.getElem?_append_right (by omega), hA']; simp
 have i1 := fun es tk => hix (j + 1) es tk hjn
 have i2 := fun es tk => hix j es tk (by omega)
 have hls := less_ok x y
 cases hxy : decide (x < y)
 ·rw [hxy] at hls
  simp only [go_sem, Nat.reduceEqDiff, Nat.reduceAdd, Nat.reduceLT, Nat.reduceLeDiff, reduceIte, g0, g1, g2, g6, g7, h0, hwj, i1, i2, yV, hgx, hgy, WB148, WVH_eq hls, true_and, hwi]
  refine Nx_of (i + 1, A' ++ [y] ++ x :: (B ++ C)) (by dsimp only; omega) ?_
  simp only [go_sem, Nat.reduceEqDiff, Nat.reduceAdd, Nat.reduceLT, Nat.reduceLeDiff, reduceIte, g0, g1, g2]
  refine ⟨trivial, trivial, trivial, trivial, by first | trivial | omega, trivial, hpm, fin fun a ha => ?_⟩
  have hyx := of_decide_eq_false hxy
  rw [List.pairwise_append, List.pairwise_append] at hpw
  rcases List.mem_append.1 ha with h | h
  ·have := hpw.1.2.2 a h y (by simp); omega
  ·rw [List.mem_singleton.1 h]; omega
 ·rw [hxy] at hls
  have s1 : ((A' ++ [y] ++ x :: (B ++ C)).map fun n => I64 n).set (j + 1) (I64 y) = (A' ++ y :: (y :: (B ++ C))).map fun n => I64 n := by
   rw [List.map_append, List.map_cons, set_at _ _ _ _ (by rw [List.length_map]; exact hA)]; first | rfl | simp
  have s2 : ((A' ++ y :: (y :: (B ++ C))).map fun n => I64 n).set j (I64 x) = (A' ++ x :: ((y :: B) ++ C)).map fun n => I64 n := by
   rw [List.map_append, List.map_cons, set_at _ _ _ _ (by rw [List.length_map]; exact hA')]; first | rfl | simp
  have hgy2 : ((A' ++ y :: (y :: (B ++ C))).map fun n => I64 n)[j]? = some (I64 y) := by
   rw [List.getElem?_map, List.getElem?_append_right (by omega), hA']; simp
  simp only [go_sem, Nat.reduceEqDiff, Nat.reduceAdd, Nat.reduceLT, Nat.reduceLeDiff, reduceIte, g0, g1, g2, g6, g7, h0, hwj, i1, i2, yV, hgx, hgy, WB148, WVH_eq hls, true_and, s1, hgy2, s2, List.set_set]
  refine Nx_of (j, A', y :: B) (by dsimp only; omega) ?_
  simp only [go_sem, Nat.reduceEqDiff, Nat.reduceAdd, Nat.reduceLT, Nat.reduceLeDiff, reduceIte, g0, g1, g2, g6]
  refine ⟨trivial, trivial, trivial, trivial, trivial, hA', by omega, trivial, by simpa using hpw, fun b hb => ?_, ?_⟩
  ·rcases List.mem_cons.1 hb with rfl | hb
   ·exact of_decide_eq_true hxy
   ·exact hB b hb
  ·refine List.Perm.trans ?_ hpm
   simp only [List.append_assoc, List.singleton_append, List.cons_append]
   exact List.Perm.append_left _ (List.Perm.swap _ _ _)
theorem pdqO_ok {id n : Nat} {bl : List Blk} {tk : List (Nat × Nat)} {ls : List Int} {lim : Int} (hid : id < bl.length) (hl : ls.length = n) (hn : n ≤ 12) (K : AV → Mem → Prop)
  (hK : ∀ ls' : List Int, ls'.Perm ls → ls'.Pairwise (· ≤ ·) → K (.tup []) ⟨bl.set id (.live (ls'.map fun n => I64 n) 1), tk⟩) : WR ft (.f 113) [.ref id 0 n, I64 0, I64 n, I64 lim] ⟨bl.set id (.live (ls.map fun n => I64 n) 1), tk⟩ K := by
 rw [WR_f ft113 rfl]
 simp only [c113, r113]
 simp only [go_sem, Nat.reduceEqDiff, Nat.reduceAdd, Nat.reduceLT, Nat.reduceLeDiff, reduceIte]
 refine WL_inv (α := Unit) (fun _ e mm => e 0 = .ref id 0 n ∧ e 1 = I64 0 ∧ e 2 = I64 n ∧ mm = ⟨bl.set id (.live (ls.map fun n => I64 n) 1), tk⟩) (fun _ => 0) () ?_ ?_
 ·simp only [go_sem, Nat.reduceEqDiff, Nat.reduceAdd, Nat.reduceLT, Nat.reduceLeDiff, reduceIte]
 rintro _ e m ⟨g0, g1, g2, rfl⟩
 have hw : IntKind.i64.wrap ((n : Int) - 0) = (n : Int) := wrap_i64 _ (by omega) (by omega)
 have hd : decide ((n : Int) ≤ 12) = true := decide_eq_true (by omega)
 simp only [go_sem, Nat.reduceEqDiff, Nat.reduceAdd, Nat.reduceLT, Nat.reduceLeDiff, reduceIte, g0, g1, g2, hw, hd, WB142]
 refine ins_ok hid hl (by omega) _ fun ls' q1 q2 => ?_
 simp only [go_sem, Nat.reduceEqDiff, Nat.reduceAdd, Nat.reduceLT, Nat.reduceLeDiff, reduceIte]
 exact hK ls' q1 q2
theorem sortI_ok {id n : Nat} {bl : List Blk} {tk : List (Nat × Nat)} {ls : List Int} (hid : id < bl.length) (hl : ls.length = n) (hn : n ≤ 12) (K : AV → Mem → Prop)
  (hK : ∀ ls' : List Int, ls'.Perm ls → ls'.Pairwise (· ≤ ·) → K (.tup []) ⟨bl.set id (.live (ls'.map fun n => I64 n) 1), tk⟩) : WR ft (.f 72) [.ref id 0 n] ⟨bl.set id (.live (ls.map fun n => I64 n) 1), tk⟩ K := by
 rw [WR_f ft72 rfl]
 simp only [c72, r72]
 have hle : lenAt ⟨bl.set id (.live (ls.map fun n => I64 n) 1), tk⟩ (.ref id 0 n) = some (I64 (n : Int)) := by
  simp [lenAt, lsz, List.getElem?_set_self hid]
 have hu : IntKind.u64.wrap (n : Int) = (n : Int) := wrap_u64 _ (by omega) (by omega)
 simp only [go_sem, Nat.reduceEqDiff, Nat.reduceAdd, Nat.reduceLT, Nat.reduceLeDiff, reduceIte, hle, hu, WB114, WVH_eq (Srt.bitsLen_ok (md := .v) (md' := .v) kPdq.bl kPdq.l6 (by omega : n < 4294967296)), true_and, WB113]
 refine pdqO_ok hid hl hn _ fun ls' q1 q2 => ?_
 simp only [go_sem, Nat.reduceEqDiff, Nat.reduceAdd, Nat.reduceLT, Nat.reduceLeDiff, reduceIte]
 exact hK ls' q1 q2
theorem sortI_nil (m : Mem) (K : AV → Mem → Prop) (hK : K (.tup []) m) : WR ft (.f 72) [.sl [] .tight] m K := by
 rw [WR_f ft72 rfl]
 simp only [c72, r72]
 have hu : IntKind.u64.wrap ((0 : Nat) : Int) = ((0 : Nat) : Int) := rfl
 simp only [go_sem, Nat.reduceEqDiff, Nat.reduceAdd, Nat.reduceLT, Nat.reduceLeDiff, reduceIte, hu, WB114, WVH_eq (Srt.bitsLen_ok (md := .v) (md' := .v) kPdq.bl kPdq.l6 (by omega : 0 < 4294967296)), true_and, WB113]
 show WR ft (.f 113) _ m _
 rw [WR_f ft113 rfl]
 simp only [c113, r113]
 simp only [go_sem, Nat.reduceEqDiff, Nat.reduceAdd, Nat.reduceLT, Nat.reduceLeDiff, reduceIte]
 refine WL_inv (α := Unit) (fun _ e mm => e 0 = .sl [] .tight ∧ e 1 = I64 0 ∧ e 2 = I64 ((0 : Nat) : Int) ∧ mm = m) (fun _ => 0) () ?_ ?_
 ·simp only [go_sem, Nat.reduceEqDiff, Nat.reduceAdd, Nat.reduceLT, Nat.reduceLeDiff, reduceIte]
 rintro _ e m1 ⟨g0, g1, g2, rfl⟩
 simp only [go_sem, Nat.reduceEqDiff, Nat.reduceAdd, Nat.reduceLT, Nat.reduceLeDiff, reduceIte, g0, g1, g2, show IntKind.i64.wrap (((0 : Nat) : Int) - 0) = 0 from rfl, show decide ((0 : Int) ≤ 12) = true from rfl, WB142]
 show WR ft (.f 142) _ m1 _
 rw [WR_f ft142 rfl]
 simp only [c142, r142]
 simp only [go_sem, Nat.reduceEqDiff, Nat.reduceAdd, Nat.reduceLT, Nat.reduceLeDiff, reduceIte, show IntKind.i64.wrap ((0 : Int) + 1) = 1 from rfl]
 refine WL_inv (α := Unit) (fun _ e mm => e 2 = I64 ((0 : Nat) : Int) ∧ e 6 = I64 1 ∧ mm = m1) (fun _ => 0) () ?_ ?_
 ·simp only [go_sem, Nat.reduceEqDiff, Nat.reduceAdd, Nat.reduceLT, Nat.reduceLeDiff, reduceIte]
 rintro _ e' m2 ⟨f2, f6, rfl⟩
 simp only [go_sem, Nat.reduceEqDiff, Nat.reduceAdd, Nat.reduceLT, Nat.reduceLeDiff, reduceIte, f2, f6, show decide ((1 : Int) < ((0 : Nat) : Int)) = false from rfl]
 exact hK
def wantsP (has want : Int) : Bool := (want == -1) || (has == want)
theorem wants_ok (has want : Int) : RV ft 109 [I64 has, I64 want] (.bool (wantsP has want)) := by
 refine RV_of ft109 rfl ?_
 simp only [c109, r109]
 unfold wantsP
 cases h : (want == -1)
 ·simp only [go_sem, Nat.reduceEqDiff, Nat.reduceAdd, Nat.reduceLT, Nat.reduceLeDiff, reduceIte, h, Bool.false_or]
 ·simp only [go_sem, Nat.reduceEqDiff, Nat.reduceAdd, Nat.reduceLT, Nat.reduceLeDiff, reduceIte, h, Bool.true_or]
def wantedP (c w : Cm) : Bool := (c.film == w.film) && (wantsP c.tongue w.tongue && wantsP c.subs w.subs)
theorem isWanted_ok (c w : Cm) : RV ft 70 [encC c, encC w] (.bool (wantedP c w)) := by
 refine RV_of ft70 rfl ?_
 simp only [c70, r70]
 have h1 := wants_ok c.tongue w.tongue
 have h2 := wants_ok c.subs w.subs
 unfold wantedP
 cases a : (c.film == w.film)
 ·simp only [go_sem, Nat.reduceEqDiff, Nat.reduceAdd, Nat.reduceLT, Nat.reduceLeDiff, reduceIte, CmCells, a, Bool.false_and]
 cases b : wantsP c.tongue w.tongue
 ·rw [b] at h1
  simp only [go_sem, Nat.reduceEqDiff, Nat.reduceAdd, Nat.reduceLT, Nat.reduceLeDiff, reduceIte, CmCells, a, WB109, WVH_eq h1, true_and, Bool.true_and, Bool.false_and]
 ·rw [b] at h1
  simp only [go_sem, Nat.reduceEqDiff, Nat.reduceAdd, Nat.reduceLT, Nat.reduceLeDiff, reduceIte, CmCells, a, WB109, WVH_eq h1, WVH_eq h2, true_and, Bool.true_and]
def canW (w : Cm) : Bool := inR w.film 0 99 && (inR w.tongue (-1) 9 && inR w.subs (-1) 9)
theorem canW_ok (w : Cm) : RV ft 69 [encC w] (.bool (canW w)) := by
 refine RV_of ft69 rfl ?_
 simp only [c69, r69]
 have h1 := isId_ok w.film
 have h2 := isWithin_ok w.tongue (-1) 9
 have h3 := isWithin_ok w.subs (-1) 9
 unfold canW
 cases a : inR w.film 0 99
 ·rw [a] at h1
  simp only [go_sem, Nat.reduceEqDiff, Nat.reduceAdd, Nat.reduceLT, Nat.reduceLeDiff, reduceIte, CmCells, WB108, WVH_eq h1, true_and, Bool.false_and]
 cases b : inR w.tongue (-1) 9
 ·rw [a] at h1
  rw [b] at h2
  simp only [go_sem, Nat.reduceEqDiff, Nat.reduceAdd, Nat.reduceLT, Nat.reduceLeDiff, reduceIte, CmCells, WB108, WVH_eq h1, WB107, WVH_eq h2, true_and, Bool.true_and, Bool.false_and]
 ·rw [a] at h1
  rw [b] at h2
  simp only [go_sem, Nat.reduceEqDiff, Nat.reduceAdd, Nat.reduceLT, Nat.reduceLeDiff, reduceIte, CmCells, WB108, WVH_eq h1, WB107, WVH_eq h2, WVH_eq h3, true_and, Bool.true_and]
def findC (l : Lb) (w : Cm) (s : Sv) (fr : Int) : List Cm := l.comps.filter fun c => wantedP c w && canP (placeP l c s) fr
def findErr (l : Lb) (w : Cm) (scr fr : Int) : Int := if checkE l = 0 then (if (scrF scr l.screens).2 && (inR fr 0 9999 && canW w) then 0 else 1) else checkE l
theorem findErr_zero {l : Lb} {w : Cm} {scr fr : Int} (h : findErr l w scr fr = 0) : checkE l = 0 ∧ (scrF scr l.screens).2 = true ∧ inR fr 0 9999 = true ∧ canW w = true := by
 unfold findErr at h
 by_cases h0 : checkE l = 0
 ·rw [if_pos h0] at h
  split at h
  ·rename_i h1
   simp only [Bool.and_eq_true] at h1
   exact ⟨h0, h1.1, h1.2.1, h1.2.2⟩
  ·cases h
 ·rw [if_neg h0] at h; exact absurd h h0
theorem RS.ne_low {es : List AV} {sz : Nat} {v : AV} {bl : List Blk} (h : RS (fun id => id < 3) es sz v bl) {i : Nat} (hi : i < 3) (n : Nat) : v ≠ .ref i 0 n := by
 rintro rfl
 rcases h with ⟨_, h⟩ | ⟨_, id, h1, h2, _⟩
 ·cases h
 ·cases h2; exact h1 hi
theorem Find_bad (l : Lb) (w : Cm) (scr fr : Int) (hB : LbB l) (h : findErr l w scr fr ≠ 0) : RV ft 39 [encL l, encC w, I64 scr, I64 fr] (.tup [encI [], I64 (findErr l w scr fr)]) := by
 refine RV_of ft39 rfl ?_
 simp only [c39, r39]
 have hch := Check_ok l hB
 unfold findErr at h ⊢
 by_cases h0 : checkE l = 0
 case neg =>
  have hne : (checkE l != 0) = true := by simpa using h0
  rw [if_neg h0]
  simp only [go_sem, Nat.reduceEqDiff, Nat.reduceAdd, Nat.reduceLT, Nat.reduceLeDiff, reduceIte, LbCells, LbEta, CmCells, CmEta, WB32, WVH_eq hch, hne, true_and]
  rfl
 have hne : (checkE l != 0) = false := by simpa using h0
 rw [if_pos h0] at h ⊢
 have hfs := findScreen_ok l scr hB.vs
 have ht := isTime_ok fr
 have hcw := canW_ok w
 cases h1 : (scrF scr l.screens).2
 case false =>
  simp only [go_sem, Nat.reduceEqDiff, Nat.reduceAdd, Nat.reduceLT, Nat.reduceLeDiff, reduceIte, LbCells, LbEta, CmCells, CmEta, WB32, WVH_eq hch, hne, true_and, WB67, WVH_eq hfs, SvCells, SvEta, hwV, h1, Bool.not_false, Bool.false_and, Bool.false_eq_true]
  rfl
 rw [h1] at h
 cases h2 : inR fr 0 9999
 case false =>
  rw [h2] at ht
  simp only [go_sem, Nat.reduceEqDiff, Nat.reduceAdd, Nat.reduceLT, Nat.reduceLeDiff, reduceIte, LbCells, LbEta, CmCells, CmEta, WB32, WVH_eq hch, hne, true_and, WB67, WVH_eq hfs, SvCells, SvEta, hwV, h1, Bool.not_true, WB68, WVH_eq ht, Bool.not_false, Bool.false_and, Bool.true_and, Bool.false_eq_true]
  rfl
 rw [h2] at h
 cases h3 : canW w
 case false =>
  rw [h2] at ht
  rw [h3] at hcw
  simp only [go_sem, Nat.reduceEqDiff, Nat.reduceAdd, Nat.reduceLT, Nat.reduceLeDiff, reduceIte, LbCells, LbEta, CmCells, CmEta, WB32, WVH_eq hch, hne, true_and, WB67, WVH_eq hfs, SvCells, SvEta, hwV, h1, Bool.not_true, WB68, WVH_eq ht, WB69, WVH_eq hcw, Bool.not_false, Bool.false_and, Bool.true_and, Bool.false_eq_true]
  rfl
 rw [h3] at h
 exact absurd rfl h
theorem Find_good (l : Lb) (w : Cm) (scr fr : Int) (hB : LbB l) (h : findErr l w scr fr = 0) : ∃ ls : List Int, (ls.Perm ((findC l w (scrF scr l.screens).1 fr).map Cm.id) ∧ ls.Pairwise (· ≤ ·)) ∧ RV ft 39 [encL l, encC w, I64 scr, I64 fr] (.tup [encI ls, I64 0]) := by
 obtain ⟨h0, h1, h2, h3⟩ := findErr_zero h
 refine RV_ex (P := fun ls : List Int => ls.Perm ((findC l w (scrF scr l.screens).1 fr).map Cm.id) ∧ ls.Pairwise (· ≤ ·)) (g := fun ls => .tup [encI ls, I64 0]) ?_
 rw [WR_f ft39 rfl]
 simp only [c39, r39]
 have hch := Check_ok l hB
 have hne : (checkE l != 0) = false := by simpa using h0
 have hV := libOK_V.1 (checkE_zero.1 h0).1
 have hfs := findScreen_ok l scr hB.vs
 have ht := isTime_ok fr
 have hcw := canW_ok w
 have hsm : (scrF scr l.screens).1 ∈ l.screens := by
  rw [scrF_find] at h1 ⊢; exact (findP_mem h1).1
 rw [h2] at ht
 rw [h3] at hcw
 rw [h1] at hfs
 obtain ⟨s, hs⟩ : ∃ s, s = (scrF scr l.screens).1 := ⟨_, rfl⟩
 rw [← hs] at hfs hsm ⊢
 have hMn := inR_Mn h2
 have hnc := hV.nc
 simp only [go_sem, Nat.reduceEqDiff, Nat.reduceAdd, Nat.reduceLT, Nat.reduceLeDiff, reduceIte, LbCells, LbEta, CmCells, CmEta, WB32, WVH_eq hch, hne, true_and, WB67, WVH_eq hfs, SvCells, SvEta, hwV, Bool.not_true, WB68, WVH_eq ht, WB69, WVH_eq hcw]
 refine WL_inv (α := Nat) (fun k e mm => e 3 = I64 fr ∧ e 4 = .ptr 0 0 0 ∧ e 5 = .ptr 1 0 0 ∧ e 11 = .ptr 2 0 0 ∧ e 40 = encCs l.comps ∧ e 41 = I64 l.comps.length ∧ e 42 = I64 k ∧ k ≤ l.comps.length ∧ ∃ bl v, e 13 = v ∧ mm = ⟨bl, []⟩ ∧ bl[0]? = some (.live [encL l] 5) ∧ bl[1]? = some (.live [encC w] 7) ∧ bl[2]? = some (.live [encV s] 3) ∧ RS (fun id => id < 3) ((((l.comps.take k).filter fun c => wantedP c w && canP (placeP l c s) fr).map Cm.id).map fun n => I64 n) 1 v bl) (fun k => l.comps.length - k) 0 ?_ ?_
 ·simp only [go_sem, Nat.reduceEqDiff, Nat.reduceAdd, Nat.reduceLT, Nat.reduceLeDiff, reduceIte]
  exact ⟨trivial, trivial, trivial, trivial, trivial, trivial, rfl, Nat.zero_le _, _, _, rfl, rfl, rfl, rfl, rfl, .inl ⟨rfl, rfl⟩⟩
 rintro k e m ⟨g3, g4, g5, g11, g40, g41, g42, hkn, bl, v, g13, rfl, b0, b1, b2, hrs⟩
 have hbl3 : 3 ≤ bl.length := by have := (List.getElem?_eq_some_iff.1 b2).1; omega
 by_cases hlt : k < l.comps.length
 case neg =>
  obtain rfl : k = l.comps.length := by omega
  rw [List.take_length] at hrs
  obtain ⟨ids, hids⟩ : ∃ ids, ids = (findC l w s fr).map Cm.id := ⟨_, rfl⟩
  rw [show (l.comps.filter fun c => wantedP c w && canP (placeP l c s) fr).map Cm.id = ids from hids.symm] at hrs
  rw [← hids]
  have hil : ids.length ≤ 8 := by
   rw [hids, List.length_map]
   have := List.length_filter_le (fun c => wantedP c w && canP (placeP l c s) fr) l.comps
   unfold findC; omega
  rcases hrs with ⟨he, rfl⟩ | ⟨hne2, id, hid3, rfl, hb⟩
  ·have : ids = [] := List.map_eq_nil_iff.1 he
   subst this
   simp only [go_sem, Nat.reduceEqDiff, Nat.reduceAdd, Nat.reduceLT, Nat.reduceLeDiff, reduceIte, g3, g4, g5, g11, g40, g41, g42, g13, dec_ge (Nat.le_refl l.comps.length), WB72]
   refine sortI_nil _ _ ?_
   simp only [go_sem, Nat.reduceEqDiff, Nat.reduceAdd, Nat.reduceLT, Nat.reduceLeDiff, reduceIte, g13]
   exact ⟨[], ⟨List.Perm.refl _, List.Pairwise.nil⟩, rfl⟩
  ·have hidl := (List.getElem?_eq_some_iff.1 hb).1
   have hbs : bl = bl.set id (.live (ids.map fun n => I64 n) 1) := by
    refine List.ext_getElem? fun i => ?_
    by_cases hi : i = id
    ·rw [hi, hb, List.getElem?_set_self hidl]
    ·rw [List.getElem?_set_ne (Ne.symm hi)]
   simp only [go_sem, Nat.reduceEqDiff, Nat.reduceAdd, Nat.reduceLT, Nat.reduceLeDiff, reduceIte, g3, g4, g5, g11, g40, g41, g42, g13, dec_ge (Nat.le_refl l.comps.length), WB72, List.length_map]
   rw [hbs]
   refine sortI_ok hidl rfl (by omega) _ fun ls' q1 q2 => ?_
   simp only [go_sem, Nat.reduceEqDiff, Nat.reduceAdd, Nat.reduceLT, Nat.reduceLeDiff, reduceIte, g13]
   refine ⟨ls', ⟨q1, q2⟩, ?_⟩
   have hlen := q1.length_eq
   simp only [snap_tup, List.map_cons, List.map_nil, dep_eq, snap_ref, elems_ref, List.getElem?_set_self hidl, elBlk_live, snap_int]
   rw [if_pos (by simp only [List.length_map]; omega), List.drop_zero, List.take_of_length_le (by simp only [List.length_map]; omega)]
   simp only [snEs_some, ints_snap]
   rfl
 obtain ⟨x, hx⟩ : ∃ x, l.comps[k]? = some x := ⟨_, List.getElem?_eq_getElem hlt⟩
 have hxm := List.mem_of_getElem? hx
 have hwx : writeCells (.agg [I64 0, I64 0, I64 0, I64 0, I64 0, .bool false, .sl [] .tight]) 0 [I64 x.id, I64 x.film, I64 x.tongue, I64 x.subs, I64 x.mins, .bool x.locked, encI x.assets] = some (encC x) := rfl
 have b0' := fun y => get_app1 b0 y
 have b1' := fun y => get_app1 b1 y
 have b2' := fun y => get_app1 b2 y
 have hwk := wrap_n1 k (by omega)
 have htf := take_filter hx (fun c => wantedP c w && canP (placeP l c s) fr)
 have hiw := isWanted_ok x w
 have hpl := place_ok l x s hB (hB.ca x hxm) (hB.vd s hsm) (hB.vf s hsm) hV.kb
 have hPB := place_B hB hV hxm hsm
 have hcp := canPlay_ok (placeP l x s) fr hPB hMn
 have hrs1 : RS (fun id => id < 3) ((((l.comps.take k).filter fun c => wantedP c w && canP (placeP l c s) fr).map Cm.id).map fun n => I64 n) 1 v (bl ++ [Blk.live [encC x] 7]) := hrs.kept (Kept.app _ _ _)
 cases hw1 : wantedP x w
 case false =>
  rw [hw1] at hiw
  simp only [go_sem, Nat.reduceEqDiff, Nat.reduceAdd, Nat.reduceLT, Nat.reduceLeDiff, reduceIte, g3, g4, g5, g11, g40, g41, g42, g13, dec_lt hlt, encCs_idx hx, b0, b1, b2, b0', b1', b2', CmCells, CmEta, hwx, get_last, set_last, WB70, WVH_eq hiw, true_and, hwk]
  refine Nx_of (k + 1) (by omega) ?_
  simp only [go_sem, Nat.reduceEqDiff, Nat.reduceAdd, Nat.reduceLT, Nat.reduceLeDiff, reduceIte, g3, g4, g5, g11, g40, g41]
  exact ⟨trivial, trivial, trivial, trivial, trivial, trivial, trivial, hlt, _, v, g13, rfl, b0' _, b1' _, b2' _, by rw [htf, hw1]; simpa using hrs1⟩
 rw [hw1] at hiw
 cases hc1 : canP (placeP l x s) fr
 case false =>
  rw [hc1] at hcp
  simp only [go_sem, Nat.reduceEqDiff, Nat.reduceAdd, Nat.reduceLT, Nat.reduceLeDiff, reduceIte, g3, g4, g5, g11, g40, g41, g42, g13, dec_lt hlt, encCs_idx hx, b0, b1, b2, b0', b1', b2', LbCells, LbEta, CmCells, CmEta, hwx, get_last, set_last, WB70, WVH_eq hiw, true_and, SvCells, SvEta, WB71, WVH_eq hpl, WB58, WVH_eq hcp, hwk]
  refine Nx_of (k + 1) (by omega) ?_
  simp only [go_sem, Nat.reduceEqDiff, Nat.reduceAdd, Nat.reduceLT, Nat.reduceLeDiff, reduceIte, g3, g4, g5, g11, g40, g41]
  exact ⟨trivial, trivial, trivial, trivial, trivial, trivial, trivial, hlt, _, v, g13, rfl, b0' _, b1' _, b2' _, by rw [htf, hw1, hc1]; simpa using hrs1⟩
 rw [hc1] at hcp
 have hrs2 : RS (fun id => id < 3) ((((l.comps.take k).filter fun c => wantedP c w && canP (placeP l c s) fr).map Cm.id).map fun n => I64 n) 1 v (bl ++ [Blk.live [encC x] 7] ++ [Blk.live [I64 x.id] 1]) := hrs1.kept (Kept.app _ _ _)
 have hfl := List.length_filter_le (fun c => wantedP c w && canP (placeP l c s) fr) (l.comps.take k)
 obtain ⟨bl2, ha, hg, hlen2, hold⟩ := rs_app hrs2 (I64 x.id) 3 8 rfl (by simp only [List.length_map, List.length_take, limit] at hfl ⊢; omega) (id2 := (bl ++ [Blk.live [encC x] 7]).length) (get_last _ _)
 have c0 := hold 0 _ (fun n => hrs.ne_low (by omega) n) (get_app1 (b0' _) _)
 have c1 := hold 1 _ (fun n => hrs.ne_low (by omega) n) (get_app1 (b1' _) _)
 have c2 := hold 2 _ (fun n => hrs.ne_low (by omega) n) (get_app1 (b2' _) _)
 simp only [go_sem, Nat.reduceEqDiff, Nat.reduceAdd, Nat.reduceLT, Nat.reduceLeDiff, reduceIte, g3, g4, g5, g11, g40, g41, g42, g13, dec_lt hlt, encCs_idx hx, b0, b1, b2, b0', b1', b2', LbCells, LbEta, CmCells, CmEta, hwx, get_last, set_last, WB70, WVH_eq hiw, true_and, SvCells, SvEta, WB71, WVH_eq hpl, WB58, WVH_eq hcp, ha, hwk]
 refine Nx_of (k + 1) (by omega) ?_
 simp only [go_sem, Nat.reduceEqDiff, Nat.reduceAdd, Nat.reduceLT, Nat.reduceLeDiff, reduceIte, g3, g4, g5, g11, g40, g41]
 refine ⟨trivial, trivial, trivial, trivial, trivial, trivial, trivial, hlt, _, _, rfl, rfl, c0, c1, c2, ?_⟩
 rw [htf, hw1, hc1]
 refine .inr ⟨by simp, (bl ++ [Blk.live [encC x] 7] ++ [Blk.live [I64 x.id] 1]).length, by simp only [List.length_append, List.length_singleton]; omega, ?_, ?_⟩
 ·simp only [Bool.and_self, if_pos, List.map_append, List.map_cons, List.map_nil, List.length_append, List.length_singleton]
 ·simp only [Bool.and_self, if_pos, List.map_append, List.map_cons, List.map_nil]
  exact hg
def isF (l : Lb) (w : Cm) (s : Sv) (fr : Int) (id : Int) : Bool := (compF id l.comps).2 && (wantedP (compF id l.comps).1 w && canP (placeP l (compF id l.comps).1 s) fr)
def refF (l : Lb) (w : Cm) (s : Sv) (fr : Int) (k : Nat) : List Int := ((List.range k).map fun (i : Nat) => (i : Int)).filter (isF l w s fr)
theorem refF_succ (l : Lb) (w : Cm) (s : Sv) (fr : Int) (k : Nat) : refF l w s fr (k + 1) = refF l w s fr k ++ if isF l w s fr k then [(k : Int)] else [] := by
 unfold refF
 rw [List.range_succ, List.map_append, List.filter_append]
 congr 1
 simp only [List.map_cons, List.map_nil, List.filter_cons, List.filter_nil]
theorem refF_len (l : Lb) (w : Cm) (s : Sv) (fr : Int) (k : Nat) : (refF l w s fr k).length ≤ k := by
 have := List.length_filter_le (isF l w s fr) ((List.range k).map fun (i : Nat) => (i : Int))
 simp only [List.length_map, List.length_range] at this
 exact this
theorem FindR_bad (l : Lb) (w : Cm) (scr fr : Int) (hB : LbB l) (h : findErr l w scr fr ≠ 0) : RV ft 40 [encL l, encC w, I64 scr, I64 fr] (.tup [encI [], I64 (findErr l w scr fr)]) := by
 refine RV_of ft40 rfl ?_
 simp only [c40, r40]
 have hch := CheckR_ok l hB
 unfold findErr at h ⊢
 by_cases h0 : checkE l = 0
 case neg =>
  have hne : (checkE l != 0) = true := by simpa using h0
  rw [if_neg h0]
  simp only [go_sem, Nat.reduceEqDiff, Nat.reduceAdd, Nat.reduceLT, Nat.reduceLeDiff, reduceIte, LbCells, LbEta, CmCells, CmEta, WB27, WVH_eq hch, hne, true_and]
  rfl
 have hne : (checkE l != 0) = false := by simpa using h0
 rw [if_pos h0] at h ⊢
 have hS := Screen_ok l scr hB.vs
 have h2k := within_ok fr 0 9999
 have h3k := within_ok w.film 0 99
 have h4k := within_ok w.tongue (-1) 9
 have h5k := within_ok w.subs (-1) 9
 cases h1 : (scrF scr l.screens).2
 case false =>
  simp only [go_sem, Nat.reduceEqDiff, Nat.reduceAdd, Nat.reduceLT, Nat.reduceLeDiff, reduceIte, LbCells, LbEta, CmCells, CmEta, WB27, WVH_eq hch, hne, true_and, WB22, WVH_eq hS, SvCells, SvEta, hwV, h1, Bool.not_false, Bool.false_and, Bool.false_eq_true]
  rfl
 rw [h1] at h
 unfold canW at h ⊢
 cases h2 : inR fr 0 9999
 case false =>
  rw [h2] at h2k
  simp only [go_sem, Nat.reduceEqDiff, Nat.reduceAdd, Nat.reduceLT, Nat.reduceLeDiff, reduceIte, LbCells, LbEta, CmCells, CmEta, WB27, WVH_eq hch, hne, true_and, WB22, WVH_eq hS, SvCells, SvEta, hwV, h1, Bool.not_true, WB73, WVH_eq h2k, Bool.not_false, Bool.false_and, Bool.true_and, Bool.false_eq_true]
  rfl
 rw [h2] at h2k h
 cases h3 : inR w.film 0 99
 case false =>
  rw [h3] at h3k
  simp only [go_sem, Nat.reduceEqDiff, Nat.reduceAdd, Nat.reduceLT, Nat.reduceLeDiff, reduceIte, LbCells, LbEta, CmCells, CmEta, WB27, WVH_eq hch, hne, true_and, WB22, WVH_eq hS, SvCells, SvEta, hwV, h1, Bool.not_true, WB73, WVH_eq h2k, WVH_eq h3k, Bool.not_false, Bool.false_and, Bool.true_and, Bool.false_eq_true]
  rfl
 rw [h3] at h3k h
 cases h4 : inR w.tongue (-1) 9
 case false =>
  rw [h4] at h4k
  simp only [go_sem, Nat.reduceEqDiff, Nat.reduceAdd, Nat.reduceLT, Nat.reduceLeDiff, reduceIte, LbCells, LbEta, CmCells, CmEta, WB27, WVH_eq hch, hne, true_and, WB22, WVH_eq hS, SvCells, SvEta, hwV, h1, Bool.not_true, WB73, WVH_eq h2k, WVH_eq h3k, WVH_eq h4k, Bool.not_false, Bool.false_and, Bool.true_and, Bool.false_eq_true]
  rfl
 rw [h4] at h4k h
 cases h5 : inR w.subs (-1) 9
 case false =>
  rw [h5] at h5k
  simp only [go_sem, Nat.reduceEqDiff, Nat.reduceAdd, Nat.reduceLT, Nat.reduceLeDiff, reduceIte, LbCells, LbEta, CmCells, CmEta, WB27, WVH_eq hch, hne, true_and, WB22, WVH_eq hS, SvCells, SvEta, hwV, h1, Bool.not_true, WB73, WVH_eq h2k, WVH_eq h3k, WVH_eq h4k, WVH_eq h5k, Bool.not_false, Bool.false_and, Bool.true_and, Bool.false_eq_true]
  rfl
 rw [h5] at h
 exact absurd rfl h
theorem FindR_good (l : Lb) (w : Cm) (scr fr : Int) (hB : LbB l) (h : findErr l w scr fr = 0) : RV ft 40 [encL l, encC w, I64 scr, I64 fr] (.tup [encI (refF l w (scrF scr l.screens).1 fr 100), I64 0]) := by
 obtain ⟨h0, h1, h2, h3⟩ := findErr_zero h
 refine RV_of ft40 rfl ?_
 simp only [c40, r40]
 have hch := CheckR_ok l hB
 have hne : (checkE l != 0) = false := by simpa using h0
 have hV := libOK_V.1 (checkE_zero.1 h0).1
 have hS := Screen_ok l scr hB.vs
 have hsm : (scrF scr l.screens).1 ∈ l.screens := by
  rw [scrF_find] at h1 ⊢; exact (findP_mem h1).1
 have h2k := within_ok fr 0 9999
 have h3k := within_ok w.film 0 99
 have h4k := within_ok w.tongue (-1) 9
 have h5k := within_ok w.subs (-1) 9
 unfold canW at h3
 simp only [Bool.and_eq_true] at h3
 rw [h2] at h2k
 rw [h3.1] at h3k
 rw [h3.2.1] at h4k
 rw [h3.2.2] at h5k
 rw [h1] at hS
 have hf0 : 0 ≤ fr ∧ fr ≤ 9999 := by simpa [inR] using h2
 obtain ⟨s, hs⟩ : ∃ s, s = (scrF scr l.screens).1 := ⟨_, rfl⟩
 rw [← hs] at hS hsm ⊢
 simp only [go_sem, Nat.reduceEqDiff, Nat.reduceAdd, Nat.reduceLT, Nat.reduceLeDiff, reduceIte, LbCells, LbEta, CmCells, CmEta, WB27, WVH_eq hch, hne, true_and, WB22, WVH_eq hS, SvCells, SvEta, hwV, Bool.not_true, WB73, WVH_eq h2k, WVH_eq h3k, WVH_eq h4k, WVH_eq h5k]
 refine WL_inv (α := Nat) (fun k e mm => e 3 = I64 fr ∧ e 4 = .ptr 0 0 0 ∧ e 5 = .ptr 1 0 0 ∧ e 11 = .ptr 2 0 0 ∧ e 14 = I64 k ∧ k ≤ 100 ∧ ∃ bl tk va, e 13 = va ∧ AccG 3 ((refF l w s fr k).map fun n => I64 n) va tk ∧ mm = ⟨bl, tk⟩ ∧ bl[0]? = some (.live [encL l] 5) ∧ bl[1]? = some (.live [encC w] 7) ∧ bl[2]? = some (.live [encV s] 3)) (fun k => 100 - k) 0 ?_ ?_
 ·simp only [go_sem, Nat.reduceEqDiff, Nat.reduceAdd, Nat.reduceLT, Nat.reduceLeDiff, reduceIte]
  exact ⟨trivial, trivial, trivial, trivial, rfl, by first | trivial | omega, _, _, _, rfl, .inl ⟨rfl, rfl⟩, rfl, rfl, rfl, rfl⟩
 rintro k e m ⟨g3, g4, g5, g11, g14, hkn, bl, tk, va, g13, hacc, rfl, b0, b1, b2⟩
 by_cases hlt : k < 100
 case neg =>
  obtain rfl : k = 100 := by omega
  have hd : decide (((100 : Nat) : Int) ≤ 99) = false := rfl
  simp only [go_sem, Nat.reduceEqDiff, Nat.reduceAdd, Nat.reduceLT, Nat.reduceLeDiff, reduceIte, g3, g4, g5, g11, g13, g14, hd]
  obtain ⟨q, hvq⟩ := hacc.sl
  rw [hvq, snap_sl, ints_snap]
  rfl
 have hd : decide ((k : Int) ≤ 99) = true := decide_eq_true (by omega)
 have hwk := wrap_n1 k (by omega)
 have hC := Comp_ok l (k : Int) hB.cs
 have b0' := fun y => get_app1 b0 y
 have b1' := fun y => get_app1 b1 y
 have b2' := fun y => get_app1 b2 y
 have hsu := refF_succ l w s fr k
 have hrl := refF_len l w s fr k
 have hskip : isF l w s fr k = false → AccG 3 ((refF l w s fr (k + 1)).map fun n => I64 n) va tk := fun h => by rw [hsu, h]; simpa using hacc
 obtain ⟨c, hc⟩ : ∃ c, c = (compF (k : Int) l.comps).1 := ⟨_, rfl⟩
 cases hso : (compF (k : Int) l.comps).2
 case false =>
  have hF : isF l w s fr k = false := by unfold isF; rw [hso]; rfl
  rw [hso, ← hc] at hC
  simp only [go_sem, Nat.reduceEqDiff, Nat.reduceAdd, Nat.reduceLT, Nat.reduceLeDiff, reduceIte, g3, g4, g5, g11, g13, g14, hd, b0, b1, b2, b0', b1', b2', LbCells, LbEta, WB21, WVH_eq hC, true_and, CmCells, CmEta, hwC, get_last, set_last, Bool.not_false, hwk]
  refine Nx_of (k + 1) (by first | omega | (dsimp only; omega)) ?_
  simp only [go_sem, Nat.reduceEqDiff, Nat.reduceAdd, Nat.reduceLT, Nat.reduceLeDiff, reduceIte, g3, g4, g5, g11]
  exact ⟨trivial, trivial, trivial, trivial, trivial, by omega, _, _, va, g13, hskip hF, rfl, b0' _, b1' _, b2' _⟩
 have hcm : c ∈ l.comps := by
  rw [hc]; rw [compF_find] at hso ⊢; exact (findP_mem hso).1
 have hW := whyR_ok l c s fr hB hV hcm hsm hf0.1 hf0.2
 have wz : ((whyP (placeP l c s) fr).1 == 0) = canP (placeP l c s) fr := by
  cases h : canP (placeP l c s) fr
  ·have := whyP_ne h; simpa [bne] using this
  ·rw [whyP_eq h]; rfl
 obtain ⟨v1, tk1, ha1, hA1⟩ := hacc.app (I64 (k : Int)) .tight (bl ++ [Blk.live [encC c] 7]) (sz := 1) (bytes := 8) (fun e he => by obtain ⟨z, _, rfl⟩ := List.mem_map.1 he; rfl) rfl (by simp only [List.length_map, limit]; omega)
 have hyes : isF l w s fr k = true → AccG 3 ((refF l w s fr (k + 1)).map fun n => I64 n) v1 tk1 := fun h => by rw [hsu, h]; simpa using hA1
 rw [hso, ← hc] at hC
 have hFe : isF l w s fr k = (wantedP c w && canP (placeP l c s) fr) := by unfold isF; rw [hso, ← hc]; rfl
 have hca : canP (placeP l c s) fr = true ∨ canP (placeP l c s) fr = false := by cases canP (placeP l c s) fr <;> simp
 cases hA : (c.film == w.film)
 case false =>
  have nA : (c.film != w.film) = true := by rw [bne, hA]; rfl
  have hF : isF l w s fr k = false := by rw [hFe]; unfold wantedP wantsP; rw [hA]; rfl
  simp only [go_sem, Nat.reduceEqDiff, Nat.reduceAdd, Nat.reduceLT, Nat.reduceLeDiff, reduceIte, g3, g4, g5, g11, g13, g14, hd, b0, b1, b2, b0', b1', b2', LbCells, LbEta, WB21, WVH_eq hC, true_and, CmCells, CmEta, hwC, get_last, set_last, Bool.not_true, Bool.not_false, nA, hwk]
  refine Nx_of (k + 1) (by first | omega | (dsimp only; omega)) ?_
  simp only [go_sem, Nat.reduceEqDiff, Nat.reduceAdd, Nat.reduceLT, Nat.reduceLeDiff, reduceIte, g3, g4, g5, g11]
  exact ⟨trivial, trivial, trivial, trivial, trivial, by omega, _, _, va, g13, hskip hF, rfl, b0' _, b1' _, b2' _⟩
 have nA : (c.film != w.film) = false := by rw [bne, hA]; rfl
 cases hB1 : (w.tongue == -1)
 case true =>
  have nB1 : (w.tongue != -1) = false := by rw [bne, hB1]; rfl
  cases hC1 : (w.subs == -1)
  case true =>
   have nC1 : (w.subs != -1) = false := by rw [bne, hC1]; rfl
   have hF : isF l w s fr k = canP (placeP l c s) fr := by rw [hFe]; unfold wantedP wantsP; rw [hA, hB1, hC1]; simp
   rcases hca with hcc | hcc
   ·rw [hcc] at hF wz
    simp only [go_sem, Nat.reduceEqDiff, Nat.reduceAdd, Nat.reduceLT, Nat.reduceLeDiff, reduceIte, g3, g4, g5, g11, g13, g14, hd, b0, b1, b2, b0', b1', b2', LbCells, LbEta, WB21, WVH_eq hC, true_and, CmCells, CmEta, hwC, get_last, set_last, Bool.not_true, Bool.not_false, nA, nB1, nC1, SvCells, SvEta, WB65, WVH_eq hW, wz, ha1, hwk]
    refine Nx_of (k + 1) (by first | omega | (dsimp only; omega)) ?_
    simp only [go_sem, Nat.reduceEqDiff, Nat.reduceAdd, Nat.reduceLT, Nat.reduceLeDiff, reduceIte, g3, g4, g5, g11]
    exact ⟨trivial, trivial, trivial, trivial, trivial, by omega, _, _, v1, rfl, hyes hF, rfl, b0' _, b1' _, b2' _⟩
   ·rw [hcc] at hF wz
    simp only [go_sem, Nat.reduceEqDiff, Nat.reduceAdd, Nat.reduceLT, Nat.reduceLeDiff, reduceIte, g3, g4, g5, g11, g13, g14, hd, b0, b1, b2, b0', b1', b2', LbCells, LbEta, WB21, WVH_eq hC, true_and, CmCells, CmEta, hwC, get_last, set_last, Bool.not_true, Bool.not_false, nA, nB1, nC1, SvCells, SvEta, WB65, WVH_eq hW, wz, hwk]
    refine Nx_of (k + 1) (by first | omega | (dsimp only; omega)) ?_
    simp only [go_sem, Nat.reduceEqDiff, Nat.reduceAdd, Nat.reduceLT, Nat.reduceLeDiff, reduceIte, g3, g4, g5, g11]
    exact ⟨trivial, trivial, trivial, trivial, trivial, by omega, _, _, va, g13, hskip hF, rfl, b0' _, b1' _, b2' _⟩
  have nC1 : (w.subs != -1) = true := by rw [bne, hC1]; rfl
  cases hC2 : (c.subs == w.subs)
  case false =>
   have nC2 : (c.subs != w.subs) = true := by rw [bne, hC2]; rfl
   have hF : isF l w s fr k = false := by rw [hFe]; unfold wantedP wantsP; rw [hA, hB1, hC1, hC2]; rfl
   simp only [go_sem, Nat.reduceEqDiff, Nat.reduceAdd, Nat.reduceLT, Nat.reduceLeDiff, reduceIte, g3, g4, g5, g11, g13, g14, hd, b0, b1, b2, b0', b1', b2', LbCells, LbEta, WB21, WVH_eq hC, true_and, CmCells, CmEta, hwC, get_last, set_last, Bool.not_true, Bool.not_false, nA, nB1, nC1, nC2, hwk]
   refine Nx_of (k + 1) (by first | omega | (dsimp only; omega)) ?_
   simp only [go_sem, Nat.reduceEqDiff, Nat.reduceAdd, Nat.reduceLT, Nat.reduceLeDiff, reduceIte, g3, g4, g5, g11]
   exact ⟨trivial, trivial, trivial, trivial, trivial, by omega, _, _, va, g13, hskip hF, rfl, b0' _, b1' _, b2' _⟩
  have nC2 : (c.subs != w.subs) = false := by rw [bne, hC2]; rfl
  have hF : isF l w s fr k = canP (placeP l c s) fr := by rw [hFe]; unfold wantedP wantsP; rw [hA, hB1, hC1, hC2]; simp
  rcases hca with hcc | hcc
  ·rw [hcc] at hF wz
   simp only [go_sem, Nat.reduceEqDiff, Nat.reduceAdd, Nat.reduceLT, Nat.reduceLeDiff, reduceIte, g3, g4, g5, g11, g13, g14, hd, b0, b1, b2, b0', b1', b2', LbCells, LbEta, WB21, WVH_eq hC, true_and, CmCells, CmEta, hwC, get_last, set_last, Bool.not_true, Bool.not_false, nA, nB1, nC1, nC2, SvCells, SvEta, WB65, WVH_eq hW, wz, ha1, hwk]
   refine Nx_of (k + 1) (by first | omega | (dsimp only; omega)) ?_
   simp only [go_sem, Nat.reduceEqDiff, Nat.reduceAdd, Nat.reduceLT, Nat.reduceLeDiff, reduceIte, g3, g4, g5, g11]
   exact ⟨trivial, trivial, trivial, trivial, trivial, by omega, _, _, v1, rfl, hyes hF, rfl, b0' _, b1' _, b2' _⟩
  ·rw [hcc] at hF wz
   simp only [go_sem, Nat.reduceEqDiff, Nat.reduceAdd, Nat.reduceLT, Nat.reduceLeDiff, reduceIte, g3, g4, g5, g11, g13, g14, hd, b0, b1, b2, b0', b1', b2', LbCells, LbEta, WB21, WVH_eq hC, true_and, CmCells, CmEta, hwC, get_last, set_last, Bool.not_true, Bool.not_false, nA, nB1, nC1, nC2, SvCells, SvEta, WB65, WVH_eq hW, wz, hwk]
   refine Nx_of (k + 1) (by first | omega | (dsimp only; omega)) ?_
   simp only [go_sem, Nat.reduceEqDiff, Nat.reduceAdd, Nat.reduceLT, Nat.reduceLeDiff, reduceIte, g3, g4, g5, g11]
   exact ⟨trivial, trivial, trivial, trivial, trivial, by omega, _, _, va, g13, hskip hF, rfl, b0' _, b1' _, b2' _⟩
 have nB1 : (w.tongue != -1) = true := by rw [bne, hB1]; rfl
 cases hB2 : (c.tongue == w.tongue)
 case false =>
  have nB2 : (c.tongue != w.tongue) = true := by rw [bne, hB2]; rfl
  have hF : isF l w s fr k = false := by rw [hFe]; unfold wantedP wantsP; rw [hA, hB1, hB2]; rfl
  simp only [go_sem, Nat.reduceEqDiff, Nat.reduceAdd, Nat.reduceLT, Nat.reduceLeDiff, reduceIte, g3, g4, g5, g11, g13, g14, hd, b0, b1, b2, b0', b1', b2', LbCells, LbEta, WB21, WVH_eq hC, true_and, CmCells, CmEta, hwC, get_last, set_last, Bool.not_true, Bool.not_false, nA, nB1, nB2, hwk]
  refine Nx_of (k + 1) (by first | omega | (dsimp only; omega)) ?_
  simp only [go_sem, Nat.reduceEqDiff, Nat.reduceAdd, Nat.reduceLT, Nat.reduceLeDiff, reduceIte, g3, g4, g5, g11]
  exact ⟨trivial, trivial, trivial, trivial, trivial, by omega, _, _, va, g13, hskip hF, rfl, b0' _, b1' _, b2' _⟩
 have nB2 : (c.tongue != w.tongue) = false := by rw [bne, hB2]; rfl
 cases hC1 : (w.subs == -1)
 case true =>
  have nC1 : (w.subs != -1) = false := by rw [bne, hC1]; rfl
  have hF : isF l w s fr k = canP (placeP l c s) fr := by rw [hFe]; unfold wantedP wantsP; rw [hA, hB1, hB2, hC1]; simp
  rcases hca with hcc | hcc
  ·rw [hcc] at hF wz
   simp only [go_sem, Nat.reduceEqDiff, Nat.reduceAdd, Nat.reduceLT, Nat.reduceLeDiff, reduceIte, g3, g4, g5, g11, g13, g14, hd, b0, b1, b2, b0', b1', b2', LbCells, LbEta, WB21, WVH_eq hC, true_and, CmCells, CmEta, hwC, get_last, set_last, Bool.not_true, Bool.not_false, nA, nB1, nB2, nC1, SvCells, SvEta, WB65, WVH_eq hW, wz, ha1, hwk]
   refine Nx_of (k + 1) (by first | omega | (dsimp only; omega)) ?_
   simp only [go_sem, Nat.reduceEqDiff, Nat.reduceAdd, Nat.reduceLT, Nat.reduceLeDiff, reduceIte, g3, g4, g5, g11]
   exact ⟨trivial, trivial, trivial, trivial, trivial, by omega, _, _, v1, rfl, hyes hF, rfl, b0' _, b1' _, b2' _⟩
  ·rw [hcc] at hF wz
   simp only [go_sem, Nat.reduceEqDiff, Nat.reduceAdd, Nat.reduceLT, Nat.reduceLeDiff, reduceIte, g3, g4, g5, g11, g13, g14, hd, b0, b1, b2, b0', b1', b2', LbCells, LbEta, WB21, WVH_eq hC, true_and, CmCells, CmEta, hwC, get_last, set_last, Bool.not_true, Bool.not_false, nA, nB1, nB2, nC1, SvCells, SvEta, WB65, WVH_eq hW, wz, hwk]
   refine Nx_of (k + 1) (by first | omega | (dsimp only; omega)) ?_
   simp only [go_sem, Nat.reduceEqDiff, Nat.reduceAdd, Nat.reduceLT, Nat.reduceLeDiff, reduceIte, g3, g4, g5, g11]
   exact ⟨trivial, trivial, trivial, trivial, trivial, by omega, _, _, va, g13, hskip hF, rfl, b0' _, b1' _, b2' _⟩
 have nC1 : (w.subs != -1) = true := by rw [bne, hC1]; rfl
 cases hC2 : (c.subs == w.subs)
 case false =>
  have nC2 : (c.subs != w.subs) = true := by rw [bne, hC2]; rfl
  have hF : isF l w s fr k = false := by rw [hFe]; unfold wantedP wantsP; rw [hA, hB1, hB2, hC1, hC2]; rfl
  simp only [go_sem, Nat.reduceEqDiff, Nat.reduceAdd, Nat.reduceLT, Nat.reduceLeDiff, reduceIte, g3, g4, g5, g11, g13, g14, hd, b0, b1, b2, b0', b1', b2', LbCells, LbEta, WB21, WVH_eq hC, true_and, CmCells, CmEta, hwC, get_last, set_last, Bool.not_true, Bool.not_false, nA, nB1, nB2, nC1, nC2, hwk]
  refine Nx_of (k + 1) (by first | omega | (dsimp only; omega)) ?_
  simp only [go_sem, Nat.reduceEqDiff, Nat.reduceAdd, Nat.reduceLT, Nat.reduceLeDiff, reduceIte, g3, g4, g5, g11]
  exact ⟨trivial, trivial, trivial, trivial, trivial, by omega, _, _, va, g13, hskip hF, rfl, b0' _, b1' _, b2' _⟩
 have nC2 : (c.subs != w.subs) = false := by rw [bne, hC2]; rfl
 have hF : isF l w s fr k = canP (placeP l c s) fr := by rw [hFe]; unfold wantedP wantsP; rw [hA, hB1, hB2, hC1, hC2]; simp
 rcases hca with hcc | hcc
 ·rw [hcc] at hF wz
  simp only [go_sem, Nat.reduceEqDiff, Nat.reduceAdd, Nat.reduceLT, Nat.reduceLeDiff, reduceIte, g3, g4, g5, g11, g13, g14, hd, b0, b1, b2, b0', b1', b2', LbCells, LbEta, WB21, WVH_eq hC, true_and, CmCells, CmEta, hwC, get_last, set_last, Bool.not_true, Bool.not_false, nA, nB1, nB2, nC1, nC2, SvCells, SvEta, WB65, WVH_eq hW, wz, ha1, hwk]
  refine Nx_of (k + 1) (by first | omega | (dsimp only; omega)) ?_
  simp only [go_sem, Nat.reduceEqDiff, Nat.reduceAdd, Nat.reduceLT, Nat.reduceLeDiff, reduceIte, g3, g4, g5, g11]
  exact ⟨trivial, trivial, trivial, trivial, trivial, by omega, _, _, v1, rfl, hyes hF, rfl, b0' _, b1' _, b2' _⟩
 ·rw [hcc] at hF wz
  simp only [go_sem, Nat.reduceEqDiff, Nat.reduceAdd, Nat.reduceLT, Nat.reduceLeDiff, reduceIte, g3, g4, g5, g11, g13, g14, hd, b0, b1, b2, b0', b1', b2', LbCells, LbEta, WB21, WVH_eq hC, true_and, CmCells, CmEta, hwC, get_last, set_last, Bool.not_true, Bool.not_false, nA, nB1, nB2, nC1, nC2, SvCells, SvEta, WB65, WVH_eq hW, wz, hwk]
  refine Nx_of (k + 1) (by first | omega | (dsimp only; omega)) ?_
  simp only [go_sem, Nat.reduceEqDiff, Nat.reduceAdd, Nat.reduceLT, Nat.reduceLeDiff, reduceIte, g3, g4, g5, g11]
  exact ⟨trivial, trivial, trivial, trivial, trivial, by omega, _, _, va, g13, hskip hF, rfl, b0' _, b1' _, b2' _⟩
theorem asc_ext : ∀ (l1 l2 : List Int), l1.Pairwise (· < ·) → l2.Pairwise (· < ·) → (∀ x, x ∈ l1 ↔ x ∈ l2) → l1 = l2
 | [], [], _, _, _ => rfl
 | [], y :: r, _, _, h => absurd ((h y).2 (by simp)) (by simp)
 | x :: r, [], _, _, h => absurd ((h x).1 (by simp)) (by simp)
 | x :: r, y :: q, h1, h2, h => by
  obtain ⟨a1, a2⟩ := List.pairwise_cons.1 h1
  obtain ⟨b1, b2⟩ := List.pairwise_cons.1 h2
  have hxy : x = y := by
   have e1 := (h x).1 (by simp)
   have e2 := (h y).2 (by simp)
   rcases List.mem_cons.1 e1 with e | e1
   ·exact e
   ·rcases List.mem_cons.1 e2 with e | e2
    ·exact e.symm
    ·have := b1 x e1; have := a1 y e2; omega
  subst hxy
  congr 1
  refine asc_ext r q a2 b2 fun z => ⟨fun hz => ?_, fun hz => ?_⟩
  ·rcases List.mem_cons.1 ((h z).1 (List.mem_cons_of_mem _ hz)) with e | e
   ·subst e; have := a1 z hz; omega
   ·exact e
  ·rcases List.mem_cons.1 ((h z).2 (List.mem_cons_of_mem _ hz)) with e | e
   ·subst e; have := b1 z hz; omega
   ·exact e
theorem sorted_lt : ∀ (l : List Int), l.Pairwise (· ≤ ·) → l.Nodup → l.Pairwise (· < ·)
 | [], _, _ => List.Pairwise.nil
 | x :: r, h1, h2 => by
  obtain ⟨a1, a2⟩ := List.pairwise_cons.1 h1
  obtain ⟨b1, b2⟩ := List.nodup_cons.1 h2
  refine List.pairwise_cons.2 ⟨fun y hy => ?_, sorted_lt r a2 b2⟩
  have := a1 y hy
  by_cases e : x = y
  ·rw [e] at b1; exact absurd hy b1
  ·omega
theorem okFrom_nodup {α : Type} {key : α → Int} {ok : α → Bool} {all : List α} : ∀ (r : List α) (k : Nat), all.drop k = r → okFrom key ok all k r = true → ((all.take k).map key).Nodup → (all.map key).Nodup
 | [], k, hd, _, hn => by
  rw [List.take_of_length_le (List.drop_eq_nil_iff.1 hd)] at hn; exact hn
 | x :: r, k, hd, h, hn => by
  obtain ⟨hk, hd2, hlt⟩ := drop_cons hd
  simp only [okFrom, Bool.and_eq_true, Bool.not_eq_true', List.any_eq_false] at h
  refine okFrom_nodup r (k + 1) hd2 h.2 ?_
  rw [take_snoc hk, List.map_append, List.map_cons, List.map_nil, List.nodup_append]
  refine ⟨hn, by simp, fun a ha b hb => ?_⟩
  rw [List.mem_singleton.1 hb]
  obtain ⟨y, hy, rfl⟩ := List.mem_map.1 ha
  have := h.1.1 y hy
  simpa using this
theorem map_inj {α : Type} {f : α → Int} : ∀ {l : List α}, (l.map f).Nodup → ∀ a ∈ l, ∀ b ∈ l, f a = f b → a = b
 | [], _, a, ha, _, _, _ => by cases ha
 | x :: r, h, a, ha, b, hb, e => by
  obtain ⟨h1, h2⟩ := List.nodup_cons.1 h
  rcases List.mem_cons.1 ha with ea | ha'
  ·rcases List.mem_cons.1 hb with eb | hb'
   ·rw [ea, eb]
   ·exact absurd (List.mem_map.2 ⟨b, hb', by rw [← e, ea]⟩) h1
  ·rcases List.mem_cons.1 hb with eb | hb'
   ·exact absurd (List.mem_map.2 ⟨a, ha', by rw [e, eb]⟩) h1
   ·exact map_inj h2 a ha' b hb' e
theorem find_same {l : Lb} (hV : LibV l) (w : Cm) (s : Sv) (fr : Int) {ls : List Int} (hp : ls.Perm ((findC l w s fr).map Cm.id)) (hs : ls.Pairwise (· ≤ ·)) : ls = refF l w s fr 100 := by
 have hnd := okFrom_nodup (key := Cm.id) l.comps 0 rfl hV.co List.nodup_nil
 have hn2 : ((findC l w s fr).map Cm.id).Nodup := hnd.sublist (List.Sublist.map _ List.filter_sublist)
 refine asc_ext _ _ (sorted_lt ls hs (hp.nodup_iff.2 hn2)) ?_ fun x => ?_
 ·unfold refF
  refine List.Pairwise.filter _ ?_
  rw [List.pairwise_map]
  exact List.pairwise_lt_range.imp fun h => by omega
 rw [hp.mem_iff]
 unfold refF
 rw [List.mem_filter, List.mem_map, List.mem_map]
 constructor
 ·rintro ⟨c, hc, rfl⟩
  unfold findC at hc
  rw [List.mem_filter] at hc
  obtain ⟨hcm, hcc⟩ := hc
  have hok := okFrom_mem hV.co hcm
  simp only [compOK, Bool.and_eq_true, inR, decide_eq_true_eq] at hok
  have h1 : 0 ≤ c.id ∧ c.id ≤ 99 := by have := hok.2.1; omega
  refine ⟨⟨c.id.toNat, by rw [List.mem_range]; omega, by omega⟩, ?_⟩
  have hfd : (compF c.id l.comps).2 = true := by
   rw [compF_find, findP_any]
   exact List.any_eq_true.2 ⟨c, hcm, by simp⟩
  have hfe : (compF c.id l.comps).1 = c := by
   have := findP_mem (p := fun c' : Cm => c'.id == c.id) (z := zeroC) (l := l.comps) (by rw [compF_find] at hfd; exact hfd)
   rw [← compF_find] at this
   exact map_inj hnd _ this.1 _ hcm (beq_iff_eq.1 this.2)
  unfold isF
  rw [hfd, hfe, hcc]; rfl
 ·rintro ⟨⟨i, hi, rfl⟩, hF⟩
  unfold isF at hF
  rw [Bool.and_eq_true] at hF
  have := findP_mem (p := fun c' : Cm => c'.id == (i : Int)) (z := zeroC) (l := l.comps) (by have := hF.1; rw [compF_find] at this; exact this)
  rw [← compF_find] at this
  refine ⟨_, ?_, beq_iff_eq.1 this.2⟩
  unfold findC
  rw [List.mem_filter]
  exact ⟨this.1, hF.2⟩
theorem eqL_self : ∀ l : List Int, eqL l l = true := by
 intro l; induction l with
 | nil => rfl
 | cons x r ih => simp_all [eqL]
theorem KeysFind_run (l : Lb) (w : Cm) (a : Ask) : RV ft 12 [encL l, encC w, encA a] (.bool true) := by
 refine RV_of ft12 rfl ?_
 simp only [c12, r12]
 have hfar := Far_ok l
 cases h1 : farL l
 case true => simp only [go_sem, Nat.reduceEqDiff, Nat.reduceAdd, Nat.reduceLT, Nat.reduceLeDiff, reduceIte, LbCells, LbEta, CmCells, CmEta, AkCells, AkEta, WB31, WVH_eq hfar, h1, true_and, WB15, WVH_eq works_ok]
 have hB := (farL_near h1).B
 have hC := Copy_ok l hB
 obtain ⟨er, her⟩ : ∃ er, er = findErr l w a.screen a.fr := ⟨_, rfl⟩
 obtain ⟨ls, hF, hF2, hll⟩ : ∃ ls, RV ft 39 [encL l, encC w, I64 a.screen, I64 a.fr] (.tup [encI ls, I64 er]) ∧ RV ft 40 [encL l, encC w, I64 a.screen, I64 a.fr] (.tup [encI ls, I64 er]) ∧ ls.length < 1073741824 := by
  by_cases h0 : findErr l w a.screen a.fr = 0
  ·obtain ⟨ls, ⟨q1, q2⟩, q3⟩ := Find_good l w a.screen a.fr hB h0
   have hV := libOK_V.1 (checkE_zero.1 (findErr_zero h0).1).1
   have q4 := find_same hV w _ a.fr q1 q2
   have q5 := FindR_good l w a.screen a.fr hB h0
   rw [← q4] at q5
   refine ⟨ls, by rw [her, h0]; exact q3, by rw [her, h0]; exact q5, ?_⟩
   rw [q4]
   have := refF_len l w (scrF a.screen l.screens).1 a.fr 100
   omega
  ·exact ⟨[], by rw [her]; exact Find_bad l w a.screen a.fr hB h0, by rw [her]; exact FindR_bad l w a.screen a.fr hB h0, by simp⟩
 have hI := sameInts_ok ls ls hll
 rw [eqL_self] at hI
 have hee : (er == er) = true := by simp
 simp only [go_sem, Nat.reduceEqDiff, Nat.reduceAdd, Nat.reduceLT, Nat.reduceLeDiff, reduceIte, LbCells, LbEta, CmCells, CmEta, AkCells, AkEta, WB31, WVH_eq hfar, h1, true_and, WF16, WVH_eq hC, WB39, WVH_eq hF, WB40, WVH_eq hF2, WB35, WVH_eq hI, hee, WB15, WVH_eq works_ok]
end Go.Ab.T
