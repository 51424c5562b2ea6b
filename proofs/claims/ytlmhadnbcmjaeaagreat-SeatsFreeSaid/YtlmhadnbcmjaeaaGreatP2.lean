/-
 A part of the proofs over this seat.
 (The texts KqK7 KqK8 KqK9, one behind the other.)
-/
import Derived.Test.YtlmhadnbcmjaeaaGreatP1
set_option linter.unusedSimpArgs false
set_option linter.unusedVariables false
set_option linter.unusedSectionVars false
section
namespace Go.Ab.T
set_option maxRecDepth 8000
set_option maxHeartbeats 4000000
structure Cl where
 id : Int
 at' : Int
 kind : Int
 order : Int
 size : Int
deriving DecidableEq
def encC (c : Cl) : AV := .agg [I64 c.id, I64 c.at', I64 c.kind, I64 c.order, I64 c.size]
theorem CCells (c : Cl) : (encC c).cells = [I64 c.id, I64 c.at', I64 c.kind, I64 c.order, I64 c.size] := rfl
theorem CEta (c : Cl) : AV.agg [I64 c.id, I64 c.at', I64 c.kind, I64 c.order, I64 c.size] = encC c := rfl
theorem snC (m : Mem) (q : Nat) (c : Cl) : snap m (q + 2) (encC c) = encC c := rfl
theorem hotC (q : Nat) (c : Cl) : hot (q + 2) (encC c) = false := rfl
def encCs (l : List Cl) : AV := .sl (l.map encC) .unk
theorem CsCells (l : List Cl) : (encCs l).cells = [encCs l] := rfl
theorem CsSolid (l : List Cl) : (encCs l).solid = true := rfl
theorem CsAgg (l : List Cl) : (encCs l).isAgg = false := rfl
theorem Cs_len (m : Mem) (l : List Cl) : lenAt m (encCs l) = some (I64 l.length) := by unfold encCs; rw [lenAt_sl, List.length_map]
theorem Cs_idx {l : List Cl} {k : Nat} {x : Cl} (h : l[k]? = some x) (m : Mem) : idxAt m (encCs l) (I64 (k : Int)) 5 = some (.pv (encC x) 0) := by
 unfold encCs
 rw [idxAt_sl, if_pos (by omega), Int.toNat_natCast, List.getElem?_map, h]
 rfl
theorem snCs (m : Mem) (q : Nat) (l : List Cl) : snap m (q + 3) (encCs l) = encCs l := by
 show AV.sl ((l.map encC).map (snap m (q + 2))) .unk = _
 rw [List.map_map, show snap m (q + 2) ∘ encC = encC from funext (fun t => snC m q t)]; rfl
theorem hotCs (q : Nat) (l : List Cl) : hot (q + 3) (encCs l) = false := by
 show (l.map encC).any (hot (q + 2)) = false
 rw [List.any_map, List.any_eq_false]; intro x _; simp only [Function.comp]; rw [show hot (q + 2) (encC x) = false from hotC q x]; decide
attribute [go_sem] CCells snC hotC snCs hotCs CsCells CsSolid CsAgg Cs_len
theorem eqC (c d : Cl) : (c.id == d.id && (c.at' == d.at' && (c.kind == d.kind && (c.order == d.order && c.size == d.size)))) = decide (c = d) := by
 obtain ⟨a, b, e, f, g⟩ := c
 obtain ⟨a', b', e', f', g'⟩ := d
 rw [Bool.eq_iff_iff]
 simp [Cl.mk.injEq]
def okS (c : Cl) : Bool := if c.kind = 1 then szR c.size else decide (c.kind = 2 ∨ c.kind = 3) && decide (c.size = 0)
def okC (c : Cl) : Bool := inR c.id 0 99 && (inR c.order 0 99 && (inR c.at' 0 9999 && okS c))
theorem isId_ok (n : Int) : RV ft 32 [I64 n] (.bool (inR n 0 99)) := by
 refine RV_of ft32 rfl ?_
 simp only [c32, r32]
 simp only [go_sem, Nat.reduceEqDiff, Nat.reduceAdd, Nat.reduceLT, Nat.reduceLeDiff, reduceIte, WB44, WVH_eq (isWithin_ok _ _ _), true_and]
theorem isMinute_ok (n : Int) : RV ft 49 [I64 n] (.bool (inR n 0 9999)) := by
 refine RV_of ft49 rfl ?_
 simp only [c49, r49]
 simp only [go_sem, Nat.reduceEqDiff, Nat.reduceAdd, Nat.reduceLT, Nat.reduceLeDiff, reduceIte, WB44, WVH_eq (isWithin_ok _ _ _), true_and]
theorem validSize_ok (c : Cl) : RV ft 68 [encC c] (.bool (okS c)) := by
 refine RV_of ft68 rfl ?_
 simp only [c68, r68]
 unfold okS
 cases d1 : (c.kind == 1)
 ·have n1 : ¬c.kind = 1 := by simpa using d1
  rw [if_neg n1]
  cases d2 : (c.kind == 2)
  ·cases d3 : (c.kind == 3)
   ·have n2 : ¬(c.kind = 2 ∨ c.kind = 3) := by simp at d2 d3; omega
    simp only [go_sem, Nat.reduceEqDiff, Nat.reduceAdd, Nat.reduceLT, Nat.reduceLeDiff, reduceIte, d1, d2, d3]
    rw [decide_eq_false n2]; rfl
   ·have n2 : c.kind = 2 ∨ c.kind = 3 := by simp at d3; omega
    simp only [go_sem, Nat.reduceEqDiff, Nat.reduceAdd, Nat.reduceLT, Nat.reduceLeDiff, reduceIte, d1, d2, d3]
    rw [decide_eq_true n2, Bool.true_and]; rfl
  ·have n2 : c.kind = 2 ∨ c.kind = 3 := by simp at d2; omega
   simp only [go_sem, Nat.reduceEqDiff, Nat.reduceAdd, Nat.reduceLT, Nat.reduceLeDiff, reduceIte, d1, d2]
   rw [decide_eq_true n2, Bool.true_and]; rfl
 ·have n1 : c.kind = 1 := by simpa using d1
  rw [if_pos n1]
  simp only [go_sem, Nat.reduceEqDiff, Nat.reduceAdd, Nat.reduceLT, Nat.reduceLeDiff, reduceIte, d1, WB39, WVH_eq (isSize_ok _), true_and]
theorem validCall_ok (c : Cl) : RV ft 47 [encC c] (.bool (okC c)) := by
 refine RV_of ft47 rfl ?_
 simp only [c47, r47]
 unfold okC
 cases d0 : inR c.id 0 99
 case false => simp only [go_sem, Nat.reduceEqDiff, Nat.reduceAdd, Nat.reduceLT, Nat.reduceLeDiff, reduceIte, WB32, WVH_eq (isId_ok _), true_and, d0, Bool.false_and]
 cases d1 : inR c.order 0 99
 case false => simp only [go_sem, Nat.reduceEqDiff, Nat.reduceAdd, Nat.reduceLT, Nat.reduceLeDiff, reduceIte, WB32, WVH_eq (isId_ok _), true_and, d0, d1, Bool.false_and, Bool.true_and]
 cases d2 : inR c.at' 0 9999
 case false => simp only [go_sem, Nat.reduceEqDiff, Nat.reduceAdd, Nat.reduceLT, Nat.reduceLeDiff, reduceIte, WB32, WVH_eq (isId_ok _), WB49, WVH_eq (isMinute_ok _), true_and, d0, d1, d2, Bool.false_and, Bool.true_and]
 simp only [go_sem, Nat.reduceEqDiff, Nat.reduceAdd, Nat.reduceLT, Nat.reduceLeDiff, reduceIte, WB32, WVH_eq (isId_ok _), WB49, WVH_eq (isMinute_ok _), WB68, CEta, WVH_eq (validSize_ok _), true_and, d0, d1, d2, Bool.true_and]
theorem isCall_ok (c : Cl) : RV ft 30 [encC c] (.bool (okC c)) := by
 refine RV_of ft30 rfl ?_
 simp only [c30, r30]
 unfold okC okS
 cases d0 : inR c.id 0 99
 case false => simp only [go_sem, Nat.reduceEqDiff, Nat.reduceAdd, Nat.reduceLT, Nat.reduceLeDiff, reduceIte, WB48, WVH_eq (within_ok _ _ _), true_and, d0, Bool.false_and]
 cases d2 : inR c.at' 0 9999
 case false =>
  simp only [go_sem, Nat.reduceEqDiff, Nat.reduceAdd, Nat.reduceLT, Nat.reduceLeDiff, reduceIte, WB48, WVH_eq (within_ok _ _ _), true_and, d0, d2]
  try simp
 cases d1 : inR c.order 0 99
 case false =>
  simp only [go_sem, Nat.reduceEqDiff, Nat.reduceAdd, Nat.reduceLT, Nat.reduceLeDiff, reduceIte, WB48, WVH_eq (within_ok _ _ _), true_and, d0, d1, d2]
  try rfl
 cases k1 : (c.kind == 1)
 case true =>
  have n1 : c.kind = 1 := by simpa using k1
  simp only [go_sem, Nat.reduceEqDiff, Nat.reduceAdd, Nat.reduceLT, Nat.reduceLeDiff, reduceIte, WB48, WVH_eq (within_ok _ _ _), true_and, d0, d1, d2, k1]
  rw [if_pos n1]; rfl
 have n1 : ¬c.kind = 1 := by simpa using k1
 rw [if_neg n1]
 cases k2 : (c.kind == 2)
 ·cases k3 : (c.kind == 3)
  ·have n2 : ¬(c.kind = 2 ∨ c.kind = 3) := by simp at k2 k3; omega
   simp only [go_sem, Nat.reduceEqDiff, Nat.reduceAdd, Nat.reduceLT, Nat.reduceLeDiff, reduceIte, WB48, WVH_eq (within_ok _ _ _), true_and, d0, d1, d2, k1, k2, k3]
   rw [decide_eq_false n2]; rfl
  ·have n2 : c.kind = 2 ∨ c.kind = 3 := by simp at k3; omega
   simp only [go_sem, Nat.reduceEqDiff, Nat.reduceAdd, Nat.reduceLT, Nat.reduceLeDiff, reduceIte, WB48, WVH_eq (within_ok _ _ _), true_and, d0, d1, d2, k1, k2, k3]
   rw [decide_eq_true n2]; rfl
 ·have n2 : c.kind = 2 ∨ c.kind = 3 := by simp at k2; omega
  simp only [go_sem, Nat.reduceEqDiff, Nat.reduceAdd, Nat.reduceLT, Nat.reduceLeDiff, reduceIte, WB48, WVH_eq (within_ok _ _ _), true_and, d0, d1, d2, k1, k2]
  rw [decide_eq_true n2]; rfl
theorem IndexFuncC_ok (l : List Cl) (f : AV) (p : Cl → Bool) (hl : l.length < 1073741824)
  (hf : ∀ x ∈ l, ∀ (e : Nat → AV) (m : Mem) (K : AV → St → Prop), K (.bool (p x)) ⟨e, m⟩ → @WAH ft f [encC x] ⟨e, m⟩ ⟨K⟩) : RV ft 94 [encCs l, f] (I64 (idxP p l 0)) := by
 refine RV_of ft94 rfl ?_
 simp only [c94, r94]
 simp only [go_sem, Nat.reduceEqDiff, Nat.reduceAdd, Nat.reduceLT, Nat.reduceLeDiff, reduceIte]
 refine WL_inv (α := Nat × List Cl) (fun q e mm => e 0 = encCs l ∧ e 1 = f ∧ e 7 = I64 l.length ∧ e 8 = I64 q.1 ∧ l.drop q.1 = q.2 ∧ idxP p q.2 q.1 = idxP p l 0) (fun q => q.2.length) (0, l) ?_ ?_
 ·simp only [go_sem, Nat.reduceEqDiff, Nat.reduceAdd, Nat.reduceLT, Nat.reduceLeDiff, reduceIte]
  ((repeat' apply And.intro) <;> first | trivial | rfl | omega | assumption)
 rintro ⟨k, r⟩ e m ⟨h0, h1, h7, h8, hd, hq⟩
 dsimp only at h8 hd hq
 cases r with
 | nil =>
  have h3 := drop_nil hd
  simp only [go_sem, Nat.reduceEqDiff, Nat.reduceAdd, Nat.reduceLT, Nat.reduceLeDiff, reduceIte, h0, h1, h7, h8, dec_ge h3]
  rw [← hq]; rfl
 | cons x r =>
  obtain ⟨hk, hd2, hlt⟩ := drop_cons hd
  simp only [go_sem, Nat.reduceEqDiff, Nat.reduceAdd, Nat.reduceLT, Nat.reduceLeDiff, reduceIte, h0, h1, h7, h8, dec_lt hlt, Cs_idx hk]
  refine hf x (List.mem_of_getElem? hk) _ _ _ ?_
  cases hx : p x
  ·simp only [go_sem, Nat.reduceEqDiff, Nat.reduceAdd, Nat.reduceLT, Nat.reduceLeDiff, reduceIte, h0, h1, h7, h8, wrap_n1 k (by omega)]
   refine Nx_of (k + 1, r) (by simp) ?_
   simp only [go_sem, Nat.reduceEqDiff, Nat.reduceAdd, Nat.reduceLT, Nat.reduceLeDiff, reduceIte, h0, h1, h7]
   exact ⟨t_, t_, t_, t_, hd2, by rw [← hq]; simp [idxP, hx]⟩
  ·simp only [go_sem, Nat.reduceEqDiff, Nat.reduceAdd, Nat.reduceLT, Nat.reduceLeDiff, reduceIte, h0, h1, h7, h8]
   rw [← hq]; simp [idxP, hx]
theorem ContainsFuncC_ok (l : List Cl) (f : AV) (p : Cl → Bool) (hl : l.length < 1073741824) (hs : ∀ (m : Mem) (q : Nat), snap m (q + 10) f = f) (hh : ∀ q, hot (q + 10) f = false)
  (hf : ∀ x ∈ l, ∀ (e : Nat → AV) (m : Mem) (K : AV → St → Prop), K (.bool (p x)) ⟨e, m⟩ → @WAH ft f [encC x] ⟨e, m⟩ ⟨K⟩) : RV ft 66 [encCs l, f] (.bool (l.any p)) := by
 refine RV_of ft66 rfl ?_
 simp only [c66, r66]
 simp only [go_sem, Nat.reduceEqDiff, Nat.reduceAdd, Nat.reduceLT, Nat.reduceLeDiff, reduceIte, WB94, hs, hh, WVH_eq (IndexFuncC_ok l f p hl hf), true_and, idxP_any]
theorem allC_ok (l : List Cl) (g : AV) (p : Cl → Bool) (hl : l.length < 1073741824) (hc : g.cells = [g]) (hso : g.solid = true) (hs : ∀ (m : Mem) (q : Nat), snap m (q + 8) g = g) (hh : ∀ q, hot (q + 8) g = false)
  (hf : ∀ x ∈ l, ∀ (e : Nat → AV) (m : Mem) (K : AV → St → Prop), K (.bool (p x)) ⟨e, m⟩ → @WAH ft g [encC x] ⟨e, m⟩ ⟨K⟩) : RV ft 46 [encCs l, g] (.bool (l.all p)) := by
 refine RV_of ft46 rfl ?_
 simp only [c46, r46]
 have hk : ∀ x ∈ l, RV ft 67 [encC x, .pv g 0] (.bool (!p x)) := fun x hx => by
  refine RV_of ft67 rfl ?_
  simp only [c67, r67]
  simp only [go_sem, Nat.reduceEqDiff, Nat.reduceAdd, Nat.reduceLT, Nat.reduceLeDiff, reduceIte, hc]
  refine hf x hx _ _ _ ?_
  simp only [go_sem, Nat.reduceEqDiff, Nat.reduceAdd, Nat.reduceLT, Nat.reduceLeDiff, reduceIte]
 have hC := ContainsFuncC_ok l (.fn 67 [] [.pv g 0]) (fun x => !p x) hl (fun m q => by
  show AV.fn 67 [] [.pv (snap m (q + 8) g) 0] = _
  rw [hs]) (fun q => by
  show (false || (hot (q + 8) g || false)) = false
  rw [hh]; rfl) (fun x hx e m K hK => by
  rw [WAH_fn]
  simp only [List.nil_append, List.cons_append]
  simp only [go_sem, Nat.reduceEqDiff, Nat.reduceAdd, Nat.reduceLT, Nat.reduceLeDiff, reduceIte, WB67, hs, hh, WVH_eq (hk x hx), true_and]
  exact hK)
 simp only [go_sem, Nat.reduceEqDiff, Nat.reduceAdd, Nat.reduceLT, Nat.reduceLeDiff, reduceIte, hc, hso, hs, hh, WB66, WVH_eq hC, true_and, not_any_not]
theorem allCalls_ok (l : List Cl) (hl : l.length < 1073741824) : RV ft 46 [encCs l, .fn 47 [] []] (.bool (l.all okC)) :=
 allC_ok l _ okC hl rfl rfl (fun _ _ => rfl) (fun _ => rfl) fun x _ e m K hK => by
  rw [WAH_fn]
  simp only [List.nil_append, List.append_nil]
  simp only [go_sem, Nat.reduceEqDiff, Nat.reduceAdd, Nat.reduceLT, Nat.reduceLeDiff, reduceIte, WB47, WVH_eq (validCall_ok x), true_and, snC, hotC]
  exact hK
theorem validCalls_ok (l : List Cl) : RV ft 27 [encCs l] (.bool (decide (l.length ≤ 40) && l.all okC)) := by
 refine RV_of ft27 rfl ?_
 simp only [c27, r27]
 have hd : decide ((l.length : Int) ≤ 40) = decide (l.length ≤ 40) := by rw [decide_eq_decide]; omega
 cases h : decide (l.length ≤ 40)
 ·simp only [go_sem, Nat.reduceEqDiff, Nat.reduceAdd, Nat.reduceLT, Nat.reduceLeDiff, reduceIte, hd, h, Bool.false_and]
 ·have hl := of_decide_eq_true h
  simp only [go_sem, Nat.reduceEqDiff, Nat.reduceAdd, Nat.reduceLT, Nat.reduceLeDiff, reduceIte, hd, h, Bool.true_and, WB46, WVH_eq (allCalls_ok l (by omega)), true_and]
theorem eqvC (c d : Cl) : eqAV true [.i, .i, .i, .i, .i] (encC c) (encC d) = some (decide (c = d)) := by
 rw [← eqC]
 show eqs [.i, .i, .i, .i, .i] [.int .i64 c.id, .int .i64 c.at', .int .i64 c.kind, .int .i64 c.order, .int .i64 c.size] [.int .i64 d.id, .int .i64 d.at', .int .i64 d.kind, .int .i64 d.order, .int .i64 d.size] = _
 simp only [eqs_i, eqs_nil, Option.map_some, Bool.and_true]
def hitC (seen : List Cl) (c : Cl) : Bool := seen.any fun d => d.id == c.id && !decide (d = c)
def clF : List Cl → List Cl → Bool
 | _, [] => false
 | seen, c :: r => hitC seen c || clF (seen ++ [c]) r
theorem ilook_hit {kvs : List (Int × AV)} {seen : List Cl} {c : Cl} (h1 : ∀ d ∈ seen, ilook kvs d.id = some (encC d)) (h2 : ∀ n, (∀ d ∈ seen, d.id ≠ n) → ilook kvs n = none) :
  (ilook kvs c.id = none ∧ hitC seen c = false ∧ ∀ d ∈ seen, d.id ≠ c.id) ∨ (∃ d, ilook kvs c.id = some (encC d) ∧ d.id = c.id ∧ hitC seen c = !decide (d = c)) := by
 by_cases hx : ∃ d ∈ seen, d.id = c.id
 ·obtain ⟨d, hd, he⟩ := hx
  have hg := h1 d hd
  rw [he] at hg
  refine .inr ⟨d, hg, he, ?_⟩
  have hu : ∀ d' ∈ seen, d'.id = c.id → d' = d := fun d' hd' he' => by
   have := h1 d' hd'
   rw [he', hg] at this
   have := Option.some.inj this
   obtain ⟨a, b, e, f, g⟩ := d
   obtain ⟨a', b', e', f', g'⟩ := d'
   simp [encC] at this
   simp [this]
  unfold hitC
  rw [Bool.eq_iff_iff, List.any_eq_true]
  constructor
  ·rintro ⟨d', hd', h⟩
   rw [Bool.and_eq_true, beq_iff_eq] at h
   rw [← hu d' hd' h.1]; exact h.2
  ·intro h
   exact ⟨d, hd, by rw [Bool.and_eq_true, beq_iff_eq]; exact ⟨he, h⟩⟩
 ·have hn : ∀ d ∈ seen, d.id ≠ c.id := fun d hd he => hx ⟨d, hd, he⟩
  refine .inl ⟨h2 _ hn, ?_, hn⟩
  unfold hitC
  rw [List.any_eq_false]
  intro d hd
  have := hn d hd
  simp [this]
theorem clash_ok (l : List Cl) (hl : l.length < 1073741824) : RV ft 28 [encCs l] (.bool (clF [] l)) := by
 refine RV_of ft28 rfl ?_
 simp only [c28, r28]
 simp only [go_sem, Nat.reduceEqDiff, Nat.reduceAdd, Nat.reduceLT, Nat.reduceLeDiff, reduceIte]
 refine WL_inv (α := Nat × List Cl × List (Int × AV) × List Blk) (fun q e mm => e 3 = .mp 0 ∧ e 9 = encCs l ∧ e 10 = I64 l.length ∧ e 11 = I64 q.1 ∧ l.drop q.1 = q.2.1 ∧ q.1 ≤ l.length ∧ clF (l.take q.1) q.2.1 = clF [] l ∧ (∀ d ∈ l.take q.1, ilook q.2.2.1 d.id = some (encC d)) ∧ (∀ n, (∀ d ∈ l.take q.1, d.id ≠ n) → ilook q.2.2.1 n = none) ∧ mm = ⟨.mp (im q.2.2.1) .i :: q.2.2.2, []⟩) (fun q => q.2.1.length) (0, l, [], []) ?_ ?_
 ·simp only [go_sem, Nat.reduceEqDiff, Nat.reduceAdd, Nat.reduceLT, Nat.reduceLeDiff, reduceIte]
  exact ⟨t_, t_, t_, rfl, t_, Nat.zero_le _, t_, fun d hd => by simp at hd, fun _ _ => rfl, rfl⟩
 rintro ⟨k, r, kvs, ws⟩ e m ⟨g3, g9, g10, g11, hd, hk0, hq, h1, h2, rfl⟩
 dsimp only at g11 hd hk0 hq h1 h2
 cases r with
 | nil =>
  have h4 := drop_nil hd
  simp only [go_sem, Nat.reduceEqDiff, Nat.reduceAdd, Nat.reduceLT, Nat.reduceLeDiff, reduceIte, g3, g9, g10, g11, dec_ge h4]
  rw [← hq]; rfl
 | cons c r =>
  obtain ⟨hk, hd2, hlt⟩ := drop_cons hd
  have htk : l.take (k + 1) = l.take k ++ [c] := by rw [List.take_add_one, hk]; rfl
  have hget := mget_im_ok (.agg [I64 0, I64 0, I64 0, I64 0, I64 0]) kvs c.id
  have hput := mput_im kvs c.id (encC c)
  have hmid : ∀ (x y : Blk), (ws ++ [x] ++ [y])[ws.length]? = some x := fun x y => by
   rw [List.append_assoc, List.getElem?_append_right (Nat.le_refl _), Nat.sub_self]; rfl
  rw [clF] at hq
  rcases ilook_hit (c := c) h1 h2 with ⟨hn, hh, hne⟩ | ⟨d, hs, he, hh⟩
  ·rw [hn] at hget
   simp only [Option.getD_none, Option.isSome_none] at hget
   rw [hh, Bool.false_or] at hq
   simp only [go_sem, Nat.reduceEqDiff, Nat.reduceAdd, Nat.reduceLT, Nat.reduceLeDiff, reduceIte, g3, g9, g10, g11, dec_lt hlt, Cs_idx hk, hget, hput, CEta, hmid, eqvC, wrap_n1 k (by omega)]
   refine Nx_of (k + 1, r, iput kvs c.id (encC c), ws ++ [.live [encC c] 5] ++ [.live [.agg [I64 0, I64 0, I64 0, I64 0, I64 0]] 5]) (by simp) ?_
   simp only [go_sem, Nat.reduceEqDiff, Nat.reduceAdd, Nat.reduceLT, Nat.reduceLeDiff, reduceIte, g3, g9, g10]
   rw [htk]
   refine ⟨t_, t_, t_, t_, hd2, by omega, hq, fun d hd => ?_, fun n hn' => ?_, t_⟩
   ·rw [ilook_iput]
    rcases List.mem_append.1 hd with hd | hd
    ·rw [if_neg (hne d hd)]; exact h1 d hd
    ·rw [List.mem_singleton] at hd
     subst hd; rw [if_pos rfl]
   ·rw [ilook_iput, if_neg (fun e => hn' c (by simp) e.symm)]
    exact h2 n fun d hd => hn' d (List.mem_append_left _ hd)
  ·rw [hs] at hget
   simp only [Option.getD_some, Option.isSome_some] at hget
   cases hdc : decide (c = d)
   ·have hdc' : hitC (l.take k) c = true := by
     rw [hh, Bool.not_eq_true', decide_eq_false_iff_not]
     exact fun e => of_decide_eq_false hdc e.symm
    rw [hdc', Bool.true_or] at hq
    simp only [go_sem, Nat.reduceEqDiff, Nat.reduceAdd, Nat.reduceLT, Nat.reduceLeDiff, reduceIte, g3, g9, g10, g11, dec_lt hlt, Cs_idx hk, hget, hput, CEta, hmid, eqvC, wrap_n1 k (by omega), hdc]
    rw [← hq]
   ·have hcd := of_decide_eq_true hdc
    subst hcd
    rw [hh, decide_eq_true rfl, Bool.not_true, Bool.false_or] at hq
    simp only [go_sem, Nat.reduceEqDiff, Nat.reduceAdd, Nat.reduceLT, Nat.reduceLeDiff, reduceIte, g3, g9, g10, g11, dec_lt hlt, Cs_idx hk, hget, hput, CEta, hmid, eqvC, wrap_n1 k (by omega), hdc]
    refine Nx_of (k + 1, r, iput kvs c.id (encC c), ws ++ [.live [encC c] 5] ++ [.live [encC c] 5]) (by simp) ?_
    simp only [go_sem, Nat.reduceEqDiff, Nat.reduceAdd, Nat.reduceLT, Nat.reduceLeDiff, reduceIte, g3, g9, g10]
    rw [htk]
    refine ⟨t_, t_, t_, t_, hd2, by omega, hq, fun d hd => ?_, fun n hn' => ?_, t_⟩
    ·rw [ilook_iput]
     by_cases hdi : d.id = c.id
     ·rw [if_pos hdi]
      rcases List.mem_append.1 hd with hd | hd
      ·have := h1 d hd
       rw [hdi, hs] at this
       exact this
      ·rw [List.mem_singleton] at hd
       rw [hd]
     ·rw [if_neg hdi]
      rcases List.mem_append.1 hd with hd | hd
      ·exact h1 d hd
      ·rw [List.mem_singleton] at hd
       exact absurd (by rw [hd]) hdi
    ·rw [ilook_iput, if_neg (fun e => hn' c (by simp) e.symm)]
     exact h2 n fun d hd => hn' d (List.mem_append_left _ hd)
def okL (l : List Cl) : Bool := decide (l.length ≤ 40) && (l.all okC && !clF [] l)
def chkE (h : Hl) (l : List Cl) : Int := if okH h = true then (if okL l = true then 0 else 41) else 40
theorem Check_ok (h : Hl) (l : List Cl) : RV ft 8 [encH h, encCs l] (I64 (chkE h l)) := by
 refine RV_of ft8 rfl ?_
 simp only [c8, r8]
 unfold chkE okL
 cases h1 : okH h
 case false =>
  simp only [go_sem, Nat.reduceEqDiff, Nat.reduceAdd, Nat.reduceLT, Nat.reduceLeDiff, reduceIte, WB26, WVH_eq (validHall_ok h), true_and, h1]
  rfl
 have hv := validCalls_ok l
 cases h2 : decide (l.length ≤ 40)
 case false =>
  rw [h2, Bool.false_and] at hv
  simp only [go_sem, Nat.reduceEqDiff, Nat.reduceAdd, Nat.reduceLT, Nat.reduceLeDiff, reduceIte, WB26, WVH_eq (validHall_ok h), true_and, h1, WB27, WVH_eq hv]
  rfl
 have hl := of_decide_eq_true h2
 cases h3 : l.all okC
 case false =>
  rw [h2, h3, Bool.true_and] at hv
  simp only [go_sem, Nat.reduceEqDiff, Nat.reduceAdd, Nat.reduceLT, Nat.reduceLeDiff, reduceIte, WB26, WVH_eq (validHall_ok h), true_and, h1, WB27, WVH_eq hv]
  rfl
 rw [h2, h3, Bool.true_and] at hv
 have hc := clash_ok l (by omega)
 cases h4 : clF [] l
 ·rw [h4] at hc
  simp only [go_sem, Nat.reduceEqDiff, Nat.reduceAdd, Nat.reduceLT, Nat.reduceLeDiff, reduceIte, WB26, WVH_eq (validHall_ok h), true_and, h1, WB27, WVH_eq hv, WB28, WVH_eq hc]
 ·rw [h4] at hc
  simp only [go_sem, Nat.reduceEqDiff, Nat.reduceAdd, Nat.reduceLT, Nat.reduceLeDiff, reduceIte, WB26, WVH_eq (validHall_ok h), true_and, h1, WB27, WVH_eq hv, WB28, WVH_eq hc]
  rfl
theorem Far_ok (h : Hl) (l : List Cl) : RV ft 5 [encH h, encCs l] (.bool (decide ((h.rows.length : Int) > 30) || decide ((l.length : Int) > 60))) := by
 refine RV_of ft5 rfl ?_
 simp only [c5, r5]
 cases h1 : decide ((h.rows.length : Int) > 30)
 ·simp only [go_sem, Nat.reduceEqDiff, Nat.reduceAdd, Nat.reduceLT, Nat.reduceLeDiff, reduceIte, h1, Bool.false_or]
 ·simp only [go_sem, Nat.reduceEqDiff, Nat.reduceAdd, Nat.reduceLT, Nat.reduceLeDiff, reduceIte, h1, Bool.true_or]
theorem hitC_snoc (s : List Cl) (d c : Cl) : hitC (s ++ [d]) c = (hitC s c || (d.id == c.id && !decide (d = c))) := by
 unfold hitC
 rw [List.any_append]; simp
theorem hitC_take {l : List Cl} {c : Cl} {j k : Nat} (hjk : j ≤ k) (h : hitC (l.take j) c = true) : hitC (l.take k) c = true := by
 unfold hitC at h ⊢
 rw [List.any_eq_true] at h ⊢
 obtain ⟨d, hd, h⟩ := h
 exact ⟨d, (List.take_prefix_take_left hjk).subset hd, h⟩
theorem CheckR_ok (h : Hl) (l : List Cl) (hl : h.rows.length < 9223372036854775808) : RV ft 9 [encH h, encCs l] (I64 (chkE h l)) := by
 refine RV_of ft9 rfl ?_
 simp only [c9, r9]
 unfold chkE
 cases h1 : okH h
 case false =>
  simp only [go_sem, Nat.reduceEqDiff, Nat.reduceAdd, Nat.reduceLT, Nat.reduceLeDiff, reduceIte, WB29, WVH_eq (IsHall_ok h hl), true_and, h1]
  rfl
 have hd40 : decide ((l.length : Int) > 40) = !decide (l.length ≤ 40) := by
  rw [Bool.eq_iff_iff, decide_eq_true_eq, Bool.not_eq_true', decide_eq_false_iff_not]; omega
 cases h2 : decide (l.length ≤ 40)
 case false =>
  have : okL l = false := by unfold okL; rw [h2]; rfl
  rw [this]
  simp only [go_sem, Nat.reduceEqDiff, Nat.reduceAdd, Nat.reduceLT, Nat.reduceLeDiff, reduceIte, WB29, WVH_eq (IsHall_ok h hl), true_and, h1, hd40, h2, Bool.not_false]
  rfl
 have hlen := of_decide_eq_true h2
 rw [if_pos rfl]
 simp only [go_sem, Nat.reduceEqDiff, Nat.reduceAdd, Nat.reduceLT, Nat.reduceLeDiff, reduceIte, WB29, WVH_eq (IsHall_ok h hl), true_and, h1, hd40, h2, Bool.not_true]
 refine WL_inv (α := Nat × List Cl) (fun q e mm => e 1 = encCs l ∧ e 5 = I64 q.1 ∧ l.drop q.1 = q.2 ∧ q.1 ≤ l.length ∧ q.2.all okC = l.all okC ∧ clF (l.take q.1) q.2 = clF [] l) (fun q => q.2.length) (0, l) ?_ ?_
 ·simp only [go_sem, Nat.reduceEqDiff, Nat.reduceAdd, Nat.reduceLT, Nat.reduceLeDiff, reduceIte]
  exact ⟨t_, rfl, t_, Nat.zero_le _, t_⟩
 rintro ⟨k, r⟩ e m ⟨g1, g5, hd, hk0, hq1, hq2⟩
 dsimp only at g5 hd hk0 hq1 hq2
 cases r with
 | nil =>
  have h4 := drop_nil hd
  have : okL l = true := by unfold okL; rw [h2, ← hq1, ← hq2]; rfl
  rw [this]
  simp only [go_sem, Nat.reduceEqDiff, Nat.reduceAdd, Nat.reduceLT, Nat.reduceLeDiff, reduceIte, g1, g5, dec_ge h4]
  try rfl
 | cons c r =>
  obtain ⟨hk, hd2, hlt⟩ := drop_cons hd
  rw [clF] at hq2
  cases hc : okC c
  ·have : okL l = false := by unfold okL; rw [h2, ← hq1]; simp [hc]
   rw [this]
   simp only [go_sem, Nat.reduceEqDiff, Nat.reduceAdd, Nat.reduceLT, Nat.reduceLeDiff, reduceIte, g1, g5, dec_lt hlt, Cs_idx hk, WB30, CEta, WVH_eq (isCall_ok c), true_and, hc]
   rfl
  simp only [go_sem, Nat.reduceEqDiff, Nat.reduceAdd, Nat.reduceLT, Nat.reduceLeDiff, reduceIte, g1, g5, dec_lt hlt, Cs_idx hk, WB30, CEta, WVH_eq (isCall_ok c), true_and, hc]
  refine WL_inv (α := Nat) (fun j e mm => e 1 = encCs l ∧ e 5 = I64 k ∧ e 6 = I64 j ∧ j ≤ k ∧ hitC (l.take j) c = false) (fun j => k - j) 0 ?_ ?_
  ·simp only [go_sem, Nat.reduceEqDiff, Nat.reduceAdd, Nat.reduceLT, Nat.reduceLeDiff, reduceIte, g1, g5]
   exact ⟨t_, t_, rfl, Nat.zero_le _, rfl⟩
  rintro j e m ⟨g1, g5, g6, hj, hh⟩
  by_cases hjk : j < k
  case neg =>
   obtain rfl : j = k := by omega
   rw [hh, Bool.false_or] at hq2
   simp only [go_sem, Nat.reduceEqDiff, Nat.reduceAdd, Nat.reduceLT, Nat.reduceLeDiff, reduceIte, g1, g5, g6, show decide ((j : Int) < (j : Int)) = false from decide_eq_false (by omega), wrap_n1 j (by omega)]
   refine Nx_of (j + 1, r) (by simp) ?_
   simp only [go_sem, Nat.reduceEqDiff, Nat.reduceAdd, Nat.reduceLT, Nat.reduceLeDiff, reduceIte, g1]
   have htk : l.take (j + 1) = l.take j ++ [c] := by rw [List.take_add_one, hk]; rfl
   exact ⟨t_, t_, hd2, by omega, by rw [← hq1]; simp [hc], by rw [htk]; exact hq2⟩
  have hjl : j < l.length := by omega
  obtain ⟨d, hdj⟩ : ∃ d, l[j]? = some d := ⟨l[j], List.getElem?_eq_getElem hjl⟩
  have htk : l.take (j + 1) = l.take j ++ [d] := by rw [List.take_add_one, hdj]; rfl
  have hdj' : decide ((j : Int) < (k : Int)) = true := decide_eq_true (by omega)
  have hno : ∀ (_ : (d.id == c.id && !decide (d = c)) = false), hitC (l.take (j + 1)) c = false := fun hx => by rw [htk, hitC_snoc, hh, hx]; rfl
  cases hid : (d.id == c.id)
  ·simp only [go_sem, Nat.reduceEqDiff, Nat.reduceAdd, Nat.reduceLT, Nat.reduceLeDiff, reduceIte, g1, g5, g6, hdj', Cs_idx hdj, Cs_idx hk, hid, wrap_n1 j (by omega)]
   refine Nx_of (j + 1) (by omega) ?_
   simp only [go_sem, Nat.reduceEqDiff, Nat.reduceAdd, Nat.reduceLT, Nat.reduceLeDiff, reduceIte, g1, g5]
   exact ⟨t_, t_, t_, by omega, hno (by rw [hid]; rfl)⟩
  cases hdc : decide (d = c)
  ·have hit : hitC (l.take k) c = true := hitC_take (j := j + 1) (by omega) (by rw [htk, hitC_snoc, hid, hdc]; simp)
   rw [hit, Bool.true_or] at hq2
   have : okL l = false := by unfold okL; rw [← hq2]; simp
   rw [this]
   simp only [go_sem, Nat.reduceEqDiff, Nat.reduceAdd, Nat.reduceLT, Nat.reduceLeDiff, reduceIte, g1, g5, g6, hdj', Cs_idx hdj, Cs_idx hk, hid, CEta, eqvC, hdc]
   rfl
  ·simp only [go_sem, Nat.reduceEqDiff, Nat.reduceAdd, Nat.reduceLT, Nat.reduceLeDiff, reduceIte, g1, g5, g6, hdj', Cs_idx hdj, Cs_idx hk, hid, CEta, eqvC, hdc, wrap_n1 j (by omega)]
   refine Nx_of (j + 1) (by omega) ?_
   simp only [go_sem, Nat.reduceEqDiff, Nat.reduceAdd, Nat.reduceLT, Nat.reduceLeDiff, reduceIte, g1, g5]
   exact ⟨t_, t_, t_, by omega, hno (by rw [hid, hdc]; rfl)⟩
end Go.Ab.T
end
