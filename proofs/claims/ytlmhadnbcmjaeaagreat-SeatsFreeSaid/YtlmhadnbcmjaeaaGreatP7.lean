/-
 A part of the proofs over this seat.
 (The texts KqM6 KqK19 KqK20 KqK21, one behind the other.)
-/
import Derived.Test.YtlmhadnbcmjaeaaGreatP5
import Derived.Test.YtlmhadnbcmjaeaaGreatB2
import Derived.Test.YtlmhadnbcmjaeaaGreatA0
set_option linter.unusedSimpArgs false
set_option linter.unusedVariables false
set_option linter.unusedSectionVars false
section
namespace Go.Ab.T
set_option maxRecDepth 8000
set_option maxHeartbeats 4000000
def keyC (c : Cl) : Int := c.at' * 100 + c.id
def asc (H : List Cl) : Prop := H.Pairwise fun a b => keyC a < keyC b
def noCl (l : List Cl) : Prop := ∀ x ∈ l, ∀ y ∈ l, x.id = y.id → x = y
theorem asc_ext : ∀ {H H' : List Cl}, asc H → asc H' → (∀ x, x ∈ H ↔ x ∈ H') → H = H'
 | [], [], _, _, _ => rfl
 | [], b :: r, _, _, h => by have := (h b).2 (by simp); cases this
 | a :: r, [], _, _, h => by have := (h a).1 (by simp); cases this
 | a :: r, b :: r', h1, h2, h => by
  unfold asc at h1 h2
  rw [List.pairwise_cons] at h1 h2
  have hab : a = b := by
   rcases List.mem_cons.1 ((h a).1 (by simp)) with e | e
   ·exact e
   ·rcases List.mem_cons.1 ((h b).2 (by simp)) with e' | e'
    ·exact e'.symm
    ·have := h1.1 b e'; have := h2.1 a e; omega
  subst hab
  rw [asc_ext h1.2 h2.2 fun x => ?_]
  constructor
  ·intro hx
   rcases List.mem_cons.1 ((h x).1 (by simp [hx])) with e | e
   ·subst e; have := h1.1 x hx; omega
   ·exact e
  ·intro hx
   rcases List.mem_cons.1 ((h x).2 (by simp [hx])) with e | e
   ·subst e; have := h2.1 x hx; omega
   ·exact e
theorem clF_iff : ∀ (l p : List Cl), clF p l = true ↔ (∃ x ∈ p, ∃ y ∈ l, x.id = y.id ∧ x ≠ y) ∨ (∃ x ∈ l, ∃ y ∈ l, x.id = y.id ∧ x ≠ y)
 | [], p => by
  show (false = true) ↔ _
  simp
 | r :: q, p => by
  have hc : clF p (r :: q) = (hitC p r || clF (p ++ [r]) q) := rfl
  unfold hitC at hc
  rw [hc, Bool.or_eq_true, clF_iff q (p ++ [r]), List.any_eq_true]
  have e1 : ∀ x : Cl, (x.id == r.id && !decide (x = r)) = true ↔ x.id = r.id ∧ x ≠ r := fun x => by
   rw [Bool.and_eq_true, beq_iff_eq, Bool.not_eq_true', decide_eq_false_iff_not]
  constructor
  ·rintro (⟨x, hx, h⟩ | ⟨x, hx, y, hy, h⟩ | ⟨x, hx, y, hy, h⟩)
   ·exact .inl ⟨x, hx, r, by simp, (e1 x).1 h⟩
   ·rcases List.mem_append.1 hx with hx | hx
    ·exact .inl ⟨x, hx, y, by simp [hy], h⟩
    ·rw [List.mem_singleton] at hx
     subst hx
     exact .inr ⟨x, by simp, y, by simp [hy], h⟩
   ·exact .inr ⟨x, by simp [hx], y, by simp [hy], h⟩
  ·rintro (⟨x, hx, y, hy, h⟩ | ⟨x, hx, y, hy, h⟩)
   ·rcases List.mem_cons.1 hy with hy' | hy'
    ·rw [hy'] at h; exact .inl ⟨x, hx, (e1 x).2 h⟩
    ·exact .inr (.inl ⟨x, by simp [hx], y, hy', h⟩)
   ·rcases List.mem_cons.1 hx with hx' | hx' <;> rcases List.mem_cons.1 hy with hy' | hy'
    ·rw [hx', hy'] at h; exact absurd rfl h.2
    ·exact .inr (.inl ⟨r, by simp, y, hy', by rw [← hx']; exact h⟩)
    ·exact .inr (.inl ⟨r, by simp, x, hx', by rw [← hy']; exact ⟨h.1.symm, Ne.symm h.2⟩⟩)
    ·exact .inr (.inr ⟨x, hx', y, hy', h⟩)
theorem noCl_of {l : List Cl} (h : clF [] l = false) : noCl l := fun x hx y hy e => by
 refine Classical.byContradiction fun hn => ?_
 have := (clF_iff l []).2 (.inr ⟨x, hx, y, hy, e, hn⟩)
 rw [h] at this; cases this
theorem key_id {l : List Cl} (hn : noCl l) (hv : ∀ c ∈ l, CV c) {x y : Cl} (hx : x ∈ l) (hy : y ∈ l) (e : keyC x = keyC y) : x = y := by
 have h1 := hv x hx
 have h2 := hv y hy
 have := h1.i0; have := h1.i1; have := h2.i0; have := h2.i1
 unfold keyC at e
 exact hn x hx y hy (by omega)
def stpC (acc : List Cl) (x : Cl) : List Cl := match acc.getLast? with
 | some y => if decide (x = y) = true then acc else acc ++ [x]
 | none => acc ++ [x]
def cmpG (acc l : List Cl) : List Cl := l.foldl stpC acc
def cmpF (l : List Cl) : List Cl := cmpG [] l
theorem cmpG_cons (acc : List Cl) (x : Cl) (l : List Cl) : cmpG acc (x :: l) = cmpG (stpC acc x) l := rfl
theorem cmpF_snoc (l : List Cl) (x : Cl) : cmpF (l ++ [x]) = stpC (cmpF l) x := by
 unfold cmpF cmpG; rw [List.foldl_append]; rfl
theorem stpC_last (acc : List Cl) (x : Cl) : (stpC acc x).getLast? = some x := by
 unfold stpC
 cases h : acc.getLast? with
 | none => simp
 | some y =>
  dsimp only
  split
  ·rename_i e; rw [h, of_decide_eq_true e]
  ·simp
theorem stpC_mem (acc : List Cl) (x a : Cl) : a ∈ stpC acc x ↔ a ∈ acc ∨ a = x := by
 unfold stpC
 cases h : acc.getLast? with
 | none => simp
 | some y =>
  dsimp only
  split
  ·rename_i e
   rw [of_decide_eq_true e]
   exact ⟨.inl, fun h2 => h2.elim id fun h2 => by rw [h2]; exact List.mem_of_getLast? h⟩
  ·simp
theorem cmpG_mem : ∀ (l acc : List Cl) (a : Cl), a ∈ cmpG acc l ↔ a ∈ acc ∨ a ∈ l
 | [], acc, a => by show a ∈ acc ↔ _; simp
 | x :: l, acc, a => by
  rw [cmpG_cons, cmpG_mem l, stpC_mem, List.mem_cons, or_assoc]
theorem cmpG_asc : ∀ (l acc : List Cl), acc.Pairwise (fun a b => keyC a < keyC b) → l.Pairwise (fun a b => keyC a ≤ keyC b) → (∀ a ∈ acc, ∀ x ∈ l, keyC a ≤ keyC x) → (∀ a ∈ acc, ∀ x ∈ l, keyC a = keyC x → a = x) → (∀ a ∈ l, ∀ x ∈ l, keyC a = keyC x → a = x) → (cmpG acc l).Pairwise fun a b => keyC a < keyC b
 | [], acc, h1, _, _, _, _ => h1
 | x :: l, acc, h1, h2, h3, h4, h5 => by
  rw [cmpG_cons]
  rw [List.pairwise_cons] at h2
  refine cmpG_asc l (stpC acc x) ?_ h2.2 (fun a ha y hy => ?_) (fun a ha y hy e => ?_) fun a ha y hy => h5 a (by simp [ha]) y (by simp [hy])
  ·unfold stpC
   cases hg : acc.getLast? with
   | none =>
    rw [List.getLast?_eq_none_iff] at hg
    subst hg
    simp
   | some y =>
    dsimp only
    split
    ·exact h1
    ·rename_i hne
     obtain ⟨ys, rfl⟩ := List.getLast?_eq_some_iff.1 hg
     rw [List.pairwise_append]
     refine ⟨h1, by simp, fun a ha z hz => ?_⟩
     rw [List.mem_singleton] at hz
     subst hz
     have h6 := h3 a ha z (by simp)
     by_cases e : keyC a = keyC z
     ·exfalso
      have hy : y ∈ ys ++ [y] := by simp
      have h7 := h3 y hy z (by simp)
      have h8 : keyC a ≤ keyC y := by
       rcases List.mem_append.1 ha with ha | ha
       ·have := (List.pairwise_append.1 h1).2.2 a ha y (by simp); omega
       ·rw [List.mem_singleton] at ha; rw [ha]; exact Int.le_refl _
      have h9 := h4 y hy z (by simp) (by omega)
      exact hne (decide_eq_true h9.symm)
     ·omega
  ·rcases (stpC_mem acc x a).1 ha with ha | rfl
   ·exact h3 a ha y (by simp [hy])
   ·exact h2.1 y hy
  ·rcases (stpC_mem acc x a).1 ha with ha | rfl
   ·exact h4 a ha y (by simp [hy]) e
   ·exact h5 a (by simp) y (by simp [hy]) e
def insC (c : Cl) : List Cl → List Cl
 | [] => [c]
 | d :: r => if keyC c < keyC d then c :: d :: r else if keyC c = keyC d then d :: r else d :: insC c r
def heardM (l : List Cl) : List Cl := l.foldr insC []
theorem insC_sub (c : Cl) : ∀ (H : List Cl) (x : Cl), x ∈ insC c H → x = c ∨ x ∈ H
 | [], x, h => by rw [insC, List.mem_singleton] at h; exact .inl h
 | d :: r, x, h => by
  rw [insC] at h
  split at h
  ·rcases List.mem_cons.1 h with e | e
   ·exact .inl e
   ·exact .inr e
  ·split at h
   ·exact .inr h
   ·rcases List.mem_cons.1 h with e | e
    ·exact .inr (by simp [e])
    ·rcases insC_sub c r x e with e | e
     ·exact .inl e
     ·exact .inr (by simp [e])
theorem insC_asc (c : Cl) : ∀ (H : List Cl), asc H → asc (insC c H)
 | [], _ => by unfold asc insC; simp
 | d :: r, h => by
  have h' := h
  unfold asc at h'
  rw [List.pairwise_cons] at h'
  rw [insC]
  split
  ·rename_i h1
   unfold asc
   rw [List.pairwise_cons]
   refine ⟨fun x hx => ?_, h⟩
   rcases List.mem_cons.1 hx with e | e
   ·rw [e]; exact h1
   ·have := h'.1 x e; omega
  ·split
   ·exact h
   ·rename_i h1 h2
    unfold asc
    rw [List.pairwise_cons]
    refine ⟨fun x hx => ?_, insC_asc c r h'.2⟩
    rcases insC_sub c r x hx with e | e
    ·rw [e]; omega
    ·exact h'.1 x e
theorem insC_keep (c : Cl) : ∀ (H : List Cl) (x : Cl), x ∈ H → x ∈ insC c H
 | d :: r, x, h => by
  rw [insC]
  split
  ·simp [h]
  ·split
   ·exact h
   ·rcases List.mem_cons.1 h with e | e
    ·simp [e]
    ·exact List.mem_cons_of_mem _ (insC_keep c r x e)
theorem insC_has (c : Cl) : ∀ (H : List Cl), ∃ y ∈ insC c H, keyC y = keyC c
 | [] => ⟨c, by simp [insC], rfl⟩
 | d :: r => by
  rw [insC]
  split
  ·exact ⟨c, by simp, rfl⟩
  ·split
   ·rename_i h; exact ⟨d, by simp, h.symm⟩
   ·obtain ⟨y, hy, e⟩ := insC_has c r
    exact ⟨y, List.mem_cons_of_mem _ hy, e⟩
theorem heard_asc : ∀ (l : List Cl), asc (heardM l)
 | [] => List.Pairwise.nil
 | c :: r => insC_asc c _ (heard_asc r)
theorem heard_sub : ∀ (l : List Cl) (x : Cl), x ∈ heardM l → x ∈ l
 | c :: r, x, h => by
  rcases insC_sub c _ x h with e | e
  ·simp [e]
  ·exact List.mem_cons_of_mem _ (heard_sub r x e)
theorem heard_has : ∀ (l : List Cl) (x : Cl), x ∈ l → ∃ y ∈ heardM l, keyC y = keyC x
 | c :: r, x, h => by
  show ∃ y ∈ insC c (heardM r), _
  rcases List.mem_cons.1 h with e | e
  ·rw [e]; exact insC_has c _
  ·obtain ⟨y, hy, hk⟩ := heard_has r x e
   exact ⟨y, insC_keep c _ y hy, hk⟩
theorem heard_mem {l : List Cl} (hn : noCl l) (hv : ∀ c ∈ l, CV c) (x : Cl) : x ∈ heardM l ↔ x ∈ l := by
 refine ⟨heard_sub l x, fun h => ?_⟩
 obtain ⟨y, hy, hk⟩ := heard_has l x h
 rw [← key_id hn hv (heard_sub l y hy) h hk]; exact hy
theorem heard_uniq {l H : List Cl} (hn : noCl l) (hv : ∀ c ∈ l, CV c) (ha : asc H) (hm : ∀ x, x ∈ H ↔ x ∈ l) : heardM l = H :=
 asc_ext (heard_asc l) ha fun x => (heard_mem hn hv x).trans (hm x).symm
theorem cmpF_heard {l S : List Cl} (hn : noCl l) (hv : ∀ c ∈ l, CV c) (hp : S.Perm l) (hs : S.Pairwise fun a b => keyC a ≤ keyC b) : cmpF S = heardM l := by
 refine (heard_uniq hn hv ?_ fun x => ?_).symm
 ·exact cmpG_asc S [] List.Pairwise.nil hs (fun a ha => nomatch ha) (fun a ha => nomatch ha) fun a ha x hx e => key_id hn hv (hp.mem_iff.1 ha) (hp.mem_iff.1 hx) e
 ·unfold cmpF
  rw [cmpG_mem]
  simp [hp.mem_iff]
theorem heard_len {l : List Cl} : (heardM l).length ≤ l.length := by
 have hi : ∀ (c : Cl) (H : List Cl), (insC c H).length ≤ H.length + 1 := fun c H => by
  induction H with
  | nil => exact Nat.le_refl _
  | cons d r ih =>
   rw [insC]
   split
   ·simp
   ·split
    ·simp
    ·rw [List.length_cons, List.length_cons]; omega
 induction l with
 | nil => exact Nat.le_refl _
 | cons c r ih =>
  have := hi c (heardM r)
  show (insC c (heardM r)).length ≤ r.length + 1
  omega
open Go.Sort
theorem cPdq : Srt.PdqFns ft 5 (some 5) 97 105 106 114 107 102 101 59 89 90 108 115 116 117 109 110 111 112 :=
 ⟨rfl, rfl, rfl, rfl, rfl, rfl, rfl, rfl, rfl, rfl, rfl, rfl, rfl, rfl, rfl, rfl, rfl⟩
theorem cSort : ft 71 = some ⟨2, Srt.sortFuncC 59 97, Srt.sortFuncR, .r⟩ := rfl
def cEls : Els where
 sz := 5
 lz := some 5
 D := fun x => ∃ c, x = encC c
 len := fun x ⟨k, h⟩ => by rw [h]; rfl
 sol := fun x ⟨k, h⟩ => by rw [h]; rfl
 rd := fun x ⟨k, h⟩ => by rw [h]; rfl
 wr := fun x y ⟨k, h⟩ ⟨k', h'⟩ => by rw [h, h']; rfl
def cmpC (c d : Cl) : Int := orZ [cmpZ c.at' d.at', cmpZ c.id d.id]
theorem byTime1_ok (c d : Cl) : RV ft 72 [encC c, encC d] (I64 (cmpC c d)) := by
 refine RV_of ft72 rfl ?_
 simp only [c72, r72]
 have hO := Or_ok [cmpZ c.at' d.at', cmpZ c.id d.id] (by simp)
 simp only [go_sem, Nat.reduceEqDiff, Nat.reduceAdd, Nat.reduceLT, Nat.reduceLeDiff, reduceIte, WB74, WVH_eq (Compare_ok _ _), WB73, sn2, hot2, WVH_eq hO, true_and]
 rfl
def clI (x : AV) : Int := match x with | .int _ n => n | _ => 0
def unR (x : AV) : Cl := match x with | .agg [a, b, c, d, e] => ⟨clI a, clI b, clI c, clI d, clI e⟩ | _ => ⟨0, 0, 0, 0, 0⟩
theorem unR_enc (k : Cl) : unR (encC k) = k := rfl
def byTime : CmpOK ft cEls (.fn 72 [] []) where
 cf := fun x y => cmpC (unR x) (unR y)
 ok := fun x y ⟨k, hk⟩ ⟨j, hj⟩ s K => by
  subst hk; subst hj
  rw [WAH_fn]
  simp only [List.nil_append, List.append_nil]
  rw [WB72]
  simp only [List.map_cons, List.map_nil, dep_eq, snC]
  rw [WV_eq (byTime1_ok k j)]
  simp only [List.all_cons, List.all_nil, hotC]
  exact propext ⟨fun h => h.2, fun h => ⟨rfl, h⟩⟩
theorem byTime_lt (x y : AV) : byTime.lt x y = decide ((unR x).at' < (unR y).at' ∨ ((unR x).at' = (unR y).at' ∧ (unR x).id < (unR y).id)) := or_lt0 _ _ _ _
theorem byTime_swo : SWO byTime.lt := by
 have : byTime.lt = fun x y => decide ((unR x).at' < (unR y).at' ∨ ((unR x).at' = (unR y).at' ∧ (unR x).id < (unR y).id)) := funext fun x => funext fun y => byTime_lt x y
 rw [this]
 refine ⟨fun x => ?_, fun x y z h1 h2 => ?_, fun x y z h1 h2 => ?_⟩
 ·exact decide_eq_false (by omega)
 ·have := of_decide_eq_true h1; have := of_decide_eq_true h2
  exact decide_eq_true (by omega)
 ·have := of_decide_eq_false h1; have := of_decide_eq_false h2
  exact decide_eq_false (by omega)
theorem sortC_run {id : Nat} {l : List Cl} {m : Mem} (hm : m.blks[id]? = some (.live (l.map encC) 5)) (hl : l.length < 1073741824) (K : AV → Mem → Prop)
  (hK : ∀ (l' : List Cl) (m' : Mem), l'.Perm l → l'.Pairwise (fun a b => a.at' < b.at' ∨ (a.at' = b.at' ∧ a.id ≤ b.id)) → m'.blks[id]? = some (.live (l'.map encC) 5) → (∀ i, i < m.blks.length → i ≠ id → m'.blks[i]? = m.blks[i]?) → m.blks.length ≤ m'.blks.length → m'.toks = m.toks → K (.tup []) m') :
  WR ft (.f 71) [.ref id 0 l.length, .fn 72 [] []] m K := by
 have hid : id < m.blks.length := (List.getElem?_eq_some_iff.1 hm).1
 have hgk : ∀ i (h : i < l.length), (l.map encC).toArray[i]! = encC l[i] := fun i h => by
  rw [getElem!_pos _ i (by simpa using h)]; simp
 have hD : AllD cEls (l.map encC).toArray := fun i hi => ⟨l[i]'(by simpa using hi), hgk i (by simpa using hi)⟩
 have h00 : MR m m id 5 (l.map encC).toArray := MR.refl (by simpa using hm)
 have hsz0 : (l.map encC).toArray.size = l.length := by simp
 refine Srt.sortFunc_run (E := cEls) byTime cSort cPdq byTime_swo hl hid (d := (l.map encC).toArray) (by simp) hD h00 K fun d' m' h1 h2 h3 => ?_
 have hsz : d'.size = l.length := by rw [h2.1]; simp
 have hperm : d'.toList.Perm (l.map encC) := by
  have := h2.2.2
  rw [show d'.extract 0 l.length = d' by rw [← hsz]; simp, show (l.map encC).toArray.extract 0 l.length = (l.map encC).toArray by simp [List.take_of_length_le]] at this
  simpa using this
 obtain ⟨l', hl', hp⟩ : ∃ l' : List Cl, d'.toList = l'.map encC ∧ l'.Perm l := by
  have key : ∀ (xs : List AV) (ys : List Cl), xs.Perm (ys.map encC) → ∃ zs : List Cl, xs = zs.map encC ∧ zs.Perm ys := by
   intro xs ys h
   have hmem : ∀ x ∈ xs, ∃ y, encC y = x := fun x hx => by
    obtain ⟨y, _, hy⟩ := List.mem_map.1 (h.mem_iff.1 hx); exact ⟨y, hy⟩
   have hex : ∃ zs : List Cl, xs = zs.map encC := by
    clear h
    induction xs with
    | nil => exact ⟨[], rfl⟩
    | cons x xs ih =>
     obtain ⟨y, hy⟩ := hmem x (by simp)
     obtain ⟨zs, hz⟩ := ih fun x hx => hmem x (by simp [hx])
     exact ⟨y :: zs, by simp [hy, hz]⟩
   obtain ⟨zs, rfl⟩ := hex
   refine ⟨zs, rfl, ?_⟩
   have := h.map unR
   rw [List.map_map, List.map_map, show unR ∘ encC = fun k => k from funext unR_enc] at this
   simpa using this
  exact key _ _ hperm
 have hsz' : l'.length = l.length := hp.length_eq
 refine hK l' m' hp ?_ (by have := h1.blk; rw [hl'] at this; exact this) h1.old h1.len h1.toks
 rw [List.pairwise_iff_getElem]
 intro i j hi hj hij
 have hs := h3 i j (by omega) hij (by omega)
 have gi : d'[i]! = encC l'[i] := by
  have := get_bang (d := d') (i := i) (by omega)
  rw [hl', List.getElem?_map, List.getElem?_eq_getElem hi] at this
  simp only [Option.map_some, Option.some.injEq] at this
  exact this.symm
 have gj : d'[j]! = encC l'[j] := by
  have := get_bang (d := d') (i := j) (by omega)
  rw [hl', List.getElem?_map, List.getElem?_eq_getElem hj] at this
  simp only [Option.map_some, Option.some.injEq] at this
  exact this.symm
 rw [byTime_lt, gi, gj] at hs
 have hs := of_decide_eq_false hs
 rw [unR_enc, unR_enc] at hs
 omega
def zCv : AV := .agg [.int .i64 0, .int .i64 0, .int .i64 0, .int .i64 0, .int .i64 0]
def Mx (bl : List Blk) (tk : List (Nat × Nat)) (id : Nat) (X : List Cl) : Mem := ⟨bl.set id (.live (X.map encC) 5), tk⟩
theorem Mx_blk {bl : List Blk} {tk : List (Nat × Nat)} {id : Nat} (h : id < bl.length) (X : List Cl) : (Mx bl tk id X).blks[id]? = some (.live (X.map encC) 5) := by
 unfold Mx; simp only; rw [List.getElem?_set_self h]
theorem Mx_idx {bl : List Blk} {tk : List (Nat × Nat)} {id : Nat} (h : id < bl.length) (X : List Cl) {off n i : Nat} (hi : i < n) : idxAt (Mx bl tk id X) (.ref id off n) (I64 (i : Int)) 5 = some (.ptr id (off + i) 0) := by
 rw [idxAt_ref, if_pos ⟨⟨by omega, by omega⟩, by rw [lsz_eq, Mx_blk h]; rfl⟩, Int.toNat_natCast]
theorem Mx_ld {bl : List Blk} {tk : List (Nat × Nat)} {id : Nat} (h : id < bl.length) {X : List Cl} {i : Nat} {x : Cl} (hi : X[i]? = some x) : loadAt (Mx bl tk id X) (.ptr id i 0) (some 5) = some (encC x) := by
 rw [loadAt_ptr, Mx_blk h]
 simp only [ldBlk_live, List.getElem?_map, hi, Option.map_some, ldEl_some]
 rfl
theorem Mx_st {bl : List Blk} {tk : List (Nat × Nat)} {id : Nat} (h : id < bl.length) {X : List Cl} {i : Nat} (hi : i < X.length) (y : Cl) : storeAt (Mx bl tk id X) (.ptr id i 0) (encC y) 5 = some (Mx bl tk id (X.set i y)) := by
 rw [storeAt_ptr, Mx_blk h]
 simp only [stBlk_live, List.getElem?_map, List.getElem?_eq_getElem hi, Option.map_some, stEl_some]
 rw [if_pos ⟨rfl, rfl⟩]
 show some (Mem.mk ((bl.set id (.live (X.map encC) 5)).set id (.live ((X.map encC).set i (encC y)) 5)) tk) = _
 unfold Mx
 rw [List.set_set, List.map_set]
theorem Mx_len {bl : List Blk} {tk : List (Nat × Nat)} {id : Nat} (h : id < bl.length) (X : List Cl) (off n : Nat) : lenAt (Mx bl tk id X) (.ref id off n) = some (I64 (n : Int)) := by
 rw [lenAt_ref, if_pos (by rw [lsz_eq, Mx_blk h]; rfl)]
theorem Mx_from {bl : List Blk} {tk : List (Nat × Nat)} {id : Nat} (h : id < bl.length) (X : List Cl) {n i : Nat} (hi : i < n) : sliceAt (Mx bl tk id X) (.ref id 0 n) (some (I64 (i : Int))) none 5 = some (.ref id i (n - i)) := by
 have hl : lsz (Mx bl tk id X) id = some 5 := by rw [lsz_eq, Mx_blk h]; rfl
 simp only [sliceAt, hl, if_true]
 have hb : bounds n (some (I64 (i : Int))) none = some (i, n) := by
  simp [bounds, asInt]; omega
 rw [hb, Option.map_some]
 dsimp only
 rw [if_neg (by omega), Nat.zero_add]
theorem Mx_to {m : Mem} {id : Nat} (hl : lsz m id = some 5) {n i : Nat} (hi : i ≤ n) : sliceAt m (.ref id 0 n) none (some (I64 (i : Int))) 5 = some (.ref id 0 i) := by
 simp only [sliceAt, hl, if_true]
 have hb : bounds n none (some (I64 (i : Int))) = some (0, i) := by
  simp [bounds, asInt]; omega
 rw [hb, Option.map_some]
 dsimp only
 rw [if_neg (by omega), Nat.zero_add, Nat.sub_zero]
theorem take_snoc {α : Type} {l : List α} {k : Nat} {x : α} (h : l[k]? = some x) : l.take (k + 1) = l.take k ++ [x] := by
 rw [List.take_add_one, h]; rfl
theorem cmp_step {l : List Cl} {j : Nat} {p x : Cl} (hp : l[j]? = some p) (hx : l[j + 1]? = some x) : cmpF (l.take (j + 2)) = if decide (x = p) = true then cmpF (l.take (j + 1)) else cmpF (l.take (j + 1)) ++ [x] := by
 have h1 : (cmpF (l.take (j + 1))).getLast? = some p := by rw [take_snoc hp, cmpF_snoc, stpC_last]
 rw [take_snoc hx, cmpF_snoc]
 conv => lhs; unfold stpC
 rw [h1]
theorem Compact_run {bl : List Blk} {tk : List (Nat × Nat)} {id : Nat} (h : id < bl.length) (l : List Cl) (hn : l.length ≤ 10000) (K : AV → Mem → Prop)
  (hK : ∀ es, es.take (cmpF l).length = (cmpF l).map encC → (cmpF l).length ≤ es.length → K (.ref id 0 (cmpF l).length) ⟨bl.set id (.live es 5), tk⟩) : WR ft (.f 75) [.ref id 0 l.length] (Mx bl tk id l) K := by
 rw [WR_f ft75 rfl]
 simp only [c75, r75]
 have hL := fun X off n => Mx_len (tk := tk) h X off n
 have hself : cmpF l = l → K (.ref id 0 l.length) (Mx bl tk id l) := fun e => by
  have := hK (l.map encC) (by rw [e, ← List.length_map (f := encC), List.take_length]) (by rw [e, List.length_map]; exact Nat.le_refl _)
  rwa [e] at this
 cases c1 : decide ((l.length : Int) < 2)
 case true =>
  have h2 : l.length < 2 := by have := of_decide_eq_true c1; omega
  simp only [go_sem, Nat.reduceEqDiff, Nat.reduceAdd, Nat.reduceLT, Nat.reduceLeDiff, reduceIte, hL, c1]
  refine hself ?_
  match l, h2 with
  | [], _ => rfl
  | [x], _ => rfl
 have h2 : 2 ≤ l.length := by have := of_decide_eq_false c1; omega
 simp only [go_sem, Nat.reduceEqDiff, Nat.reduceAdd, Nat.reduceLT, Nat.reduceLeDiff, reduceIte, hL, c1]
 refine WL_inv (α := Nat) (fun q e mm => e 0 = .ref id 0 l.length ∧ e 3 = I64 q ∧ 1 ≤ q ∧ q ≤ l.length ∧ cmpF (l.take q) = l.take q ∧ mm = Mx bl tk id l) (fun q => l.length - q) 1 ?_ ?_
 ·simp only [go_sem, Nat.reduceEqDiff, Nat.reduceAdd, Nat.reduceLT, Nat.reduceLeDiff, reduceIte]
  refine ⟨t_, rfl, by first | trivial | omega, by first | trivial | omega, ?_, t_⟩
  match l, h2 with
  | x :: l, _ => rfl
 rintro q e m ⟨g0, g3, hq1, hqn, hc, rfl⟩
 obtain ⟨i, rfl⟩ : ∃ i, q = i + 1 := ⟨q - 1, by omega⟩
 by_cases hlt : i + 1 < l.length
 case neg =>
  have e1 : i + 1 = l.length := by omega
  rw [e1, List.take_length] at hc
  simp only [go_sem, Nat.reduceEqDiff, Nat.reduceAdd, Nat.reduceLT, Nat.reduceLeDiff, reduceIte, g0, g3, hL, dec_ge (show l.length ≤ i + 1 by omega)]
  exact hself hc
 have hx := List.getElem?_eq_getElem hlt
 have hp := List.getElem?_eq_getElem (show i < l.length by omega)
 have hs := cmp_step hp hx
 have w1 : IntKind.i64.wrap (((i + 1 : Nat) : Int) - 1) = (i : Int) := by rw [wrap_i64 _ (by omega) (by omega)]; omega
 have i1 := Mx_idx (tk := tk) h l (off := 0) hlt
 have i2 := Mx_idx (tk := tk) h l (off := 0) (show i < l.length by omega)
 rw [Nat.zero_add] at i1 i2
 have d1 := Mx_ld (tk := tk) h hx
 have d2 := Mx_ld (tk := tk) h hp
 generalize l[i + 1] = x at hx hs d1
 generalize l[i] = p at hp hs d2
 cases e1 : decide (x = p)
 case false =>
  rw [e1, if_neg (by decide), hc, ← take_snoc hx] at hs
  simp only [go_sem, Nat.reduceEqDiff, Nat.reduceAdd, Nat.reduceLT, Nat.reduceLeDiff, reduceIte, g0, g3, hL, dec_lt hlt, i1, i2, d1, d2, w1, eqvC, e1, Bool.false_eq_true, if_false, wrap_n1 (i + 1) (by omega)]
  refine Nx_of (i + 2) (by omega) ?_
  simp only [go_sem, Nat.reduceEqDiff, Nat.reduceAdd, Nat.reduceLT, Nat.reduceLeDiff, reduceIte, g0]
  exact ⟨t_, t_, by first | trivial | omega, by first | trivial | omega, hs, t_⟩
 rw [e1, if_pos rfl, hc] at hs
 have f1 := Mx_from (tk := tk) h l hlt
 simp only [go_sem, Nat.reduceEqDiff, Nat.reduceAdd, Nat.reduceLT, Nat.reduceLeDiff, reduceIte, g0, g3, hL, dec_lt hlt, i1, i2, d1, d2, w1, eqvC, e1, f1, Bool.false_eq_true, if_false]
 refine WL_inv (α := Nat × Nat × List Cl) (fun q e mm => e 0 = .ref id 0 l.length ∧ e 3 = I64 q.2.1 ∧ e 4 = .ref id (i + 1) (l.length - (i + 1)) ∧ e 5 = I64 q.1 ∧ 1 ≤ q.1 ∧ q.1 ≤ l.length - (i + 1) ∧ q.2.1 ≤ i + q.1 ∧ q.2.2.length = l.length ∧ q.2.2.take q.2.1 = cmpF (l.take (i + 1 + q.1)) ∧ (∀ j, i + q.1 ≤ j → q.2.2[j]? = l[j]?) ∧ mm = Mx bl tk id q.2.2) (fun q => l.length - (i + 1) - q.1) (1, i + 1, l) ?_ ?_
 ·simp only [go_sem, Nat.reduceEqDiff, Nat.reduceAdd, Nat.reduceLT, Nat.reduceLeDiff, reduceIte, g0, g3]
  exact ⟨t_, t_, t_, rfl, by first | trivial | omega, by first | trivial | omega, by first | trivial | omega, t_, hs.symm, fun j _ => trivial, t_⟩
 rintro ⟨k, a, X⟩ e m ⟨g0, g3, g4, g5, hk1, hkn, ha, hXl, hXt, hXr, rfl⟩
 dsimp only at g3 g5 hk1 hkn ha hXl hXt hXr
 obtain ⟨k, rfl⟩ : ∃ j, k = j + 1 := ⟨k - 1, by omega⟩
 by_cases hkl : k + 1 < l.length - (i + 1)
 ·have hy : l[i + 1 + (k + 1)]? = some (l[i + 1 + (k + 1)]'(by omega)) := List.getElem?_eq_getElem (by omega)
  have hz : l[i + 1 + k]? = some (l[i + 1 + k]'(by omega)) := List.getElem?_eq_getElem (by omega)
  have hs2 := cmp_step (j := i + 1 + k) hz (by rw [← hy]; rfl)
  have j1 := Mx_idx (tk := tk) h X (off := i + 1) hkl
  have j2 := Mx_idx (tk := tk) h X (off := i + 1) (show k < l.length - (i + 1) by omega)
  have t1 := Mx_ld (tk := tk) h (X := X) (i := i + 1 + (k + 1)) (by rw [hXr _ (by omega)]; exact hy)
  have t2 := Mx_ld (tk := tk) h (X := X) (i := i + 1 + k) (by rw [hXr _ (by omega)]; exact hz)
  have w2 : IntKind.i64.wrap (((k + 1 : Nat) : Int) - 1) = (k : Int) := by rw [wrap_i64 _ (by omega) (by omega)]; omega
  generalize l[i + 1 + (k + 1)]'(by omega) = y at hy hs2 t1
  generalize l[i + 1 + k]'(by omega) = z at hz hs2 t2
  have ea : i + 1 + (k + 1) = i + 1 + k + 1 := by omega
  rw [ea] at hXt
  cases e2 : decide (y = z)
  ·rw [e2, if_neg (by decide), ← hXt] at hs2
   have s1 := Mx_idx (tk := tk) h X (off := 0) (show a < l.length by omega)
   rw [Nat.zero_add] at s1
   have s2 := Mx_st (tk := tk) h (X := X) (i := a) (by omega) y
   simp only [go_sem, Nat.reduceEqDiff, Nat.reduceAdd, Nat.reduceLT, Nat.reduceLeDiff, reduceIte, g0, g3, g4, g5, hL, dec_lt hkl, j1, j2, t1, t2, w2, eqvC, e2, Bool.false_eq_true, if_false, s1, s2, wrap_n1 a (by omega), wrap_n1 (k + 1) (by omega)]
   refine Nx_of (k + 2, a + 1, X.set a y) (by dsimp only; omega) ?_
   simp only [go_sem, Nat.reduceEqDiff, Nat.reduceAdd, Nat.reduceLT, Nat.reduceLeDiff, reduceIte, g0, g4]
   refine ⟨t_, t_, t_, t_, by first | trivial | omega, by first | trivial | omega, by first | trivial | omega, by simp [hXl], ?_, fun j hj => ?_, t_⟩
   ·rw [show i + 1 + (k + 2) = i + 1 + k + 2 by omega, hs2]
    have hg : (X.set a y)[a]? = some y := List.getElem?_set_self (by omega)
    rw [take_snoc hg, List.take_set, List.set_eq_of_length_le (by rw [List.length_take]; exact Nat.min_le_left _ _)]
   ·rw [List.getElem?_set_ne (by omega)]; exact hXr j (by omega)
  ·rw [e2, if_pos rfl, ← hXt] at hs2
   simp only [go_sem, Nat.reduceEqDiff, Nat.reduceAdd, Nat.reduceLT, Nat.reduceLeDiff, reduceIte, g0, g3, g4, g5, hL, dec_lt hkl, j1, j2, t1, t2, w2, eqvC, e2, Bool.false_eq_true, if_false, wrap_n1 (k + 1) (by omega)]
   refine Nx_of (k + 2, a, X) (by dsimp only; omega) ?_
   simp only [go_sem, Nat.reduceEqDiff, Nat.reduceAdd, Nat.reduceLT, Nat.reduceLeDiff, reduceIte, g0, g3, g4]
   exact ⟨t_, t_, t_, t_, by first | trivial | omega, by first | trivial | omega, by first | trivial | omega, hXl, by rw [show i + 1 + (k + 2) = i + 1 + k + 2 by first | trivial | omega, hs2], fun j hj => hXr j (by first | trivial | omega), t_⟩
 ·have ea : i + 1 + (k + 1) = l.length := by omega
  rw [ea, List.take_length] at hXt
  have hal : (cmpF l).length = a := by rw [← hXt, List.length_take]; omega
  have f2 := Mx_from (tk := tk) h X (show a < l.length by omega)
  obtain ⟨es, hM, hb2, hb3⟩ : ∃ es, clearAt (Mx bl tk id X) (.ref id a (l.length - a)) zCv 5 = some ⟨bl.set id (.live es 5), tk⟩ ∧ es.take a = (cmpF l).map encC ∧ a ≤ es.length := by
   have hlen : (X.map encC).length = l.length := by rw [List.length_map, hXl]
   refine ⟨(X.map encC).take a ++ List.replicate (l.length - a) zCv ++ (X.map encC).drop (a + (l.length - a)), ?_, ?_, ?_⟩
   ·simp only [clearAt, Mx_blk h]
    rw [if_pos ⟨⟨⟨by rw [hlen]; omega, by omega⟩, t_⟩, rfl, rfl⟩]
    show some (Mem.mk ((bl.set id _).set id _) tk) = _
    rw [List.set_set]
   ·rw [List.append_assoc, List.take_append_of_le_length (by rw [List.length_take, hlen]; omega), List.take_take, Nat.min_self, ← List.map_take, hXt]
   ·rw [List.length_append, List.length_append, List.length_take, hlen]; omega
  have f3 := Mx_to (m := ⟨bl.set id (.live es 5), tk⟩) (id := id) (by rw [lsz_eq]; simp only; rw [List.getElem?_set_self h]; rfl) (show a ≤ l.length by omega)
  unfold zCv at hM
  simp only [go_sem, Nat.reduceEqDiff, Nat.reduceAdd, Nat.reduceLT, Nat.reduceLeDiff, reduceIte, g0, g3, g4, g5, hL, dec_ge (show l.length - (i + 1) ≤ k + 1 by omega), f2, hM, f3]
  rw [← hal]
  exact hK es (by rw [hal]; exact hb2) (by rw [hal]; exact hb3)
theorem app0C (l : List Cl) (hl : l.length < 1000000) (hne : l ≠ []) : append0 ⟨[], []⟩ (.sl [] .tight) (encCs l) 5 40 = some (.ref 0 0 l.length, ⟨[.live (l.map encC) 5], []⟩) := by
 have hs : hdSz (l.map encC) 5 = true := by
  cases l with
  | nil => rfl
  | cons x r => rfl
 have hm : l.map encC ≠ [] := fun h => hne (List.map_eq_nil_iff.1 h)
 show append0 ⟨[], []⟩ (.sl [] .tight) (.sl (l.map encC) .unk) 5 40 = _
 simp only [append0, Mem.elems]
 rw [if_pos ⟨⟨by simp only [List.length_map, limit]; omega, hs⟩, hm⟩, List.length_map]
 rfl
theorem CloneC_run (l : List Cl) (hl : l.length < 1000000) : WR ft (.f 70) [encCs l] .nil fun v m => (l = [] ∧ v = .sl [] .tight ∧ m = .nil) ∨ (l ≠ [] ∧ v = .ref 0 0 l.length ∧ m = ⟨[.live (l.map encC) 5], []⟩) := by
 rw [WR_f ft70 rfl]
 simp only [c70, r70]
 simp only [go_sem, Nat.reduceEqDiff, Nat.reduceAdd, Nat.reduceLT, Nat.reduceLeDiff, reduceIte]
 refine W_nilq ?_
 simp only [go_sem, Nat.reduceEqDiff, Nat.reduceAdd, Nat.reduceLT, Nat.reduceLeDiff, reduceIte]
 cases l with
 | cons x r =>
  have ha := app0C (x :: r) hl (by simp)
  refine .inl ⟨encC x, r.map encC, .unk, rfl, ?_⟩
  simp only [go_sem, Nat.reduceEqDiff, Nat.reduceAdd, Nat.reduceLT, Nat.reduceLeDiff, reduceIte, ha]
  exact .inr ⟨by simp, rfl, rfl⟩
 | nil =>
  have ha : append0 ⟨[], []⟩ (.sl [] .tight) (encCs []) 5 40 = some (.sl [] .tight, ⟨[], []⟩) := rfl
  refine .inr (.inr ⟨.unk, .ret, (⟨upd (entry [encCs []]) 2 (.sl [] .tight), ⟨[], []⟩⟩ : St).forget [3, 4, 5, 6, 7], rfl, ?_, fun b => ?_⟩)
  ·show Fin _ _ _ _
   simp only [go_sem, Nat.reduceEqDiff, Nat.reduceAdd, Nat.reduceLT, Nat.reduceLeDiff, reduceIte]
   exact .inl ⟨by trivial, by trivial, by trivial⟩
  ·cases b
   ·simp only [go_sem, Nat.reduceEqDiff, Nat.reduceAdd, Nat.reduceLT, Nat.reduceLeDiff, reduceIte, ha]
    refine ⟨t_, ?_⟩
    show St.mk _ _ = St.mk _ _
    congr 1
    funext t
    match t with
    | 0 => rfl
    | 1 => rfl
    | 2 => rfl
    | 3 => rfl
    | 4 => rfl
    | 5 => rfl
    | 6 => rfl
    | 7 => rfl
    | n + 8 => rfl
   ·simp only [go_sem, Nat.reduceEqDiff, Nat.reduceAdd, Nat.reduceLT, Nat.reduceLeDiff, reduceIte]
    refine ⟨t_, ?_⟩
    show St.mk _ _ = St.mk _ _
    congr 1
    funext t
    match t with
    | 0 => rfl
    | 1 => rfl
    | 2 => rfl
    | 3 => rfl
    | 4 => rfl
    | 5 => rfl
    | 6 => rfl
    | 7 => rfl
    | n + 8 => rfl
theorem inOrder_ok (l : List Cl) (hl : l.length ≤ 1000) (hn : noCl l) (hv : ∀ c ∈ l, CV c) : RV ft 51 [encCs l] (encCs (heardM l)) := by
 refine RV_of ft51 rfl ?_
 simp only [c51, r51]
 simp only [go_sem, Nat.reduceEqDiff, Nat.reduceAdd, Nat.reduceLT, Nat.reduceLeDiff, reduceIte, WB70]
 refine WR_mono (CloneC_run l (by omega)) fun v m h => ?_
 rcases h with ⟨rfl, rfl, rfl⟩ | ⟨hne, rfl, rfl⟩
 ·simp only [go_sem, Nat.reduceEqDiff, Nat.reduceAdd, Nat.reduceLT, Nat.reduceLeDiff, reduceIte, hotCs, WB71]
  refine ⟨t_, ?_⟩
  show WR ft (.f 71) [.sl [] .tight, .fn 72 [] []] ⟨[], []⟩ _
  refine Srt.sortFunc_nil cSort cPdq _ _ ?_
  simp only [go_sem, Nat.reduceEqDiff, Nat.reduceAdd, Nat.reduceLT, Nat.reduceLeDiff, reduceIte, WB75]
  show WR ft (.f 75) [.sl [] .tight] ⟨[], []⟩ _
  rw [WR_f ft75 rfl]
  simp only [c75, r75]
  simp only [go_sem, Nat.reduceEqDiff, Nat.reduceAdd, Nat.reduceLT, Nat.reduceLeDiff, reduceIte, List.length_nil, show decide (((0 : Nat) : Int) < 2) = true from rfl]
  rfl
 ·have hsh : (l.map encC).map (Ab.shift 0 0 12) = l.map encC := by
   rw [List.map_map, show Ab.shift 0 0 12 ∘ encC = encC from funext fun c => rfl]
  simp only [go_sem, Nat.reduceEqDiff, Nat.reduceAdd, Nat.reduceLT, Nat.reduceLeDiff, reduceIte, hotCs, WB71, joinMem]
  refine ⟨t_, ?_⟩
  show WR ft (.f 71) [.ref (0 + 0) 0 l.length, .fn 72 [] []] ⟨[.live ((l.map encC).map (Ab.shift 0 0 12)) 5], []⟩ _
  rw [hsh]
  refine sortC_run (id := 0) (l := l) rfl (by omega) _ fun l' m' p1 p2 p3 p4 p5 p6 => ?_
  obtain ⟨bl, tk⟩ := m'
  dsimp only at p3 p5
  have hbl : 0 < bl.length := by simp only [List.length_cons, List.length_nil] at p5; omega
  have hM : (⟨bl, tk⟩ : Mem) = Mx bl tk 0 l' := by
   unfold Mx
   congr 1
   refine List.ext_getElem? fun i => ?_
   by_cases hi : 0 = i
   ·subst hi; rw [List.getElem?_set_self hbl, p3]
   ·rw [List.getElem?_set_ne hi]
  simp only [go_sem, Nat.reduceEqDiff, Nat.reduceAdd, Nat.reduceLT, Nat.reduceLeDiff, reduceIte, WB75]
  show WR ft (.f 75) [.ref (0 + 0) 0 l.length] ⟨bl, tk⟩ _
  rw [hM, ← p1.length_eq]
  have hH : cmpF l' = heardM l := cmpF_heard hn hv p1 (p2.imp_of_mem fun {a b} ha hb h => by
   have h1 := hv a (p1.mem_iff.1 ha)
   have h2 := hv b (p1.mem_iff.1 hb)
   have := h1.i0; have := h1.i1; have := h2.i0; have := h2.i1
   unfold keyC
   omega)
  refine Compact_run (id := 0) hbl l' (by rw [p1.length_eq]; omega) _ fun es q2 q3 => ?_
  simp only [go_sem, Nat.reduceEqDiff, Nat.reduceAdd, Nat.reduceLT, Nat.reduceLeDiff, reduceIte]
  rw [hH] at q2 q3 ⊢
  have e : snap ⟨bl.set 0 (.live es 5), tk⟩ 12 (.ref 0 0 (heardM l).length) = encCs (heardM l) := by
   simp only [snap_ref, elems_ref]
   rw [List.getElem?_set_self hbl]
   simp only [elBlk_live]
   rw [if_pos (by omega), List.drop_zero, q2]
   show AV.sl (((heardM l).map encC).map (snap _ 11)) .unk = _
   rw [List.map_map, show snap (⟨bl.set 0 (.live es 5), tk⟩ : Mem) 11 ∘ encC = encC from funext fun c => snC _ 9 c]; rfl
  exact e
end Go.Ab.T
end
