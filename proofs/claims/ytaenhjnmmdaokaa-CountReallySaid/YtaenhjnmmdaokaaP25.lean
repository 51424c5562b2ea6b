/-
  A part of the proofs over this seat.
  (The texts KcM10 KcK34, one behind the other.)
-/
import Derived.Test.YtaenhjnmmdaokaaP19
import Derived.Test.YtaenhjnmmdaokaaP20
set_option linter.unusedSimpArgs false
set_option linter.unusedVariables false
set_option linter.unusedSectionVars false
section
namespace Go.Ab.T
def bndG {α : Type} (g : α → Int) : List α → Int × Int → Int × Int
  | [], s => s
  | c :: r, s => bndG g r (min s.1 (g c), max s.2 (g c))
theorem bndG_le {α : Type} (g : α → Int) : ∀ (L : List α) (s : Int × Int), (bndG g L s).1 ≤ s.1 ∧ s.2 ≤ (bndG g L s).2 ∧ ∀ x ∈ L, (bndG g L s).1 ≤ g x ∧ g x ≤ (bndG g L s).2
  | [], s => ⟨Int.le_refl _, Int.le_refl _, fun x hx => nomatch hx⟩
  | c :: r, s => by
    obtain ⟨h1, h2, h3⟩ := bndG_le g r (min s.1 (g c), max s.2 (g c))
    simp only [bndG]
    dsimp only at h1 h2
    refine ⟨by omega, by omega, fun x hx => ?_⟩
    cases hx with
    | head => omega
    | tail _ hx => exact h3 x hx
theorem bndG_at {α : Type} (g : α → Int) : ∀ (L : List α) (s : Int × Int), ((bndG g L s).1 = s.1 ∨ ∃ x ∈ L, (bndG g L s).1 = g x) ∧ ((bndG g L s).2 = s.2 ∨ ∃ x ∈ L, (bndG g L s).2 = g x)
  | [], s => ⟨.inl rfl, .inl rfl⟩
  | c :: r, s => by
    obtain ⟨h1, h2⟩ := bndG_at g r (min s.1 (g c), max s.2 (g c))
    simp only [bndG]
    constructor
    · rcases h1 with h | ⟨x, hx, h⟩
      · dsimp only at h
        by_cases hm : s.1 ≤ g c
        · exact .inl (by rw [h]; omega)
        · exact .inr ⟨c, by simp, by rw [h]; omega⟩
      · exact .inr ⟨x, by simp [hx], h⟩
    · rcases h2 with h | ⟨x, hx, h⟩
      · dsimp only at h
        by_cases hm : g c ≤ s.2
        · exact .inl (by rw [h]; omega)
        · exact .inr ⟨c, by simp, by rw [h]; omega⟩
      · exact .inr ⟨x, by simp [hx], h⟩
theorem bndG_bnd {α : Type} (g : α → Int) (f : Ch → Int) {M : List α} {L : List Ch} {a0 : α} (h0 : a0 ∈ M) (hL : L ≠ []) (h1 : ∀ x ∈ L, ∃ a ∈ M, f x = g a) (h2 : ∀ a ∈ M, ∃ x ∈ L, g a = f x) : bndG g M (g a0, g a0) = bnd f L := by
  obtain ⟨_, _, l3⟩ := bndG_le g M (g a0, g a0)
  obtain ⟨a1, a2⟩ := bndG_at g M (g a0, g a0)
  obtain ⟨⟨x, x1, x2⟩, y, y1, y2⟩ := bnd_at f hL
  have b1 : ∃ a ∈ M, (bndG g M (g a0, g a0)).1 = g a := a1.elim (fun h => ⟨a0, h0, h⟩) id
  have b2 : ∃ a ∈ M, (bndG g M (g a0, g a0)).2 = g a := a2.elim (fun h => ⟨a0, h0, h⟩) id
  obtain ⟨a, ha, ea⟩ := b1
  obtain ⟨b, hb, eb⟩ := b2
  obtain ⟨xa, hxa, exa⟩ := h2 a ha
  obtain ⟨xb, hxb, exb⟩ := h2 b hb
  obtain ⟨ax, hax, eax⟩ := h1 x x1
  obtain ⟨ay, hay, eay⟩ := h1 y y1
  have m1 := bnd_mem f hxa
  have m2 := bnd_mem f hxb
  have m3 := l3 ax hax
  have m4 := l3 ay hay
  exact Prod.ext (by omega) (by omega)
theorem toV_getD {l : List Int} {i : Nat} (hi : i < 3) : (toV l).at (i : Int) = l.getD i 0 := by
  have : i = 0 ∨ i = 1 ∨ i = 2 := by omega
  rcases this with rfl | rfl | rfl <;> rfl
theorem really_lk {v : Ev} (h : EV4 v) (ht : hasTr v = true) {i s : Nat} (hi : i < v.cs.length) (hs : s < 3) {l0 : List (List Int)} (h0 : l0 ∈ lkL v) : bndG (fun ls : List (List Int) => (ls.getD i []).getD s 0) (lkL v) ((l0.getD i []).getD s 0, (l0.getD i []).getD s 0) = bnd (fun c => c.t.at (s : Int)) (likV v i).1 := by
  have hc : v.cs[i]? = some v.cs[i] := List.getElem?_eq_getElem hi
  refine bndG_bnd _ _ h0 (likV_ne h ht hi) (fun x hx => ?_) fun ls hls => ?_
  · obtain ⟨ls, h1, rfl⟩ := (lkL_lik h ht hc).1 hx
    exact ⟨ls, h1, toV_getD hs⟩
  · exact ⟨_, (lkL_lik h ht hc).2 ⟨ls, hls, rfl⟩, (toV_getD hs).symm⟩
theorem missing_lk {v : Ev} (h : EV4 v) (ht : hasTr v = true) {i : Nat} {c : Ctr} (hc : v.cs[i]? = some c) {l0 : List (List Int)} (h0 : l0 ∈ lkL v) : bndG (fun ls : List (List Int) => miss (toV v.pr) c (toV (ls.getD i []))) (lkL v) (miss (toV v.pr) c (toV (l0.getD i [])), miss (toV v.pr) c (toV (l0.getD i []))) = bnd Ch.m (likV v i).1 := by
  refine bndG_bnd _ _ h0 (likV_ne h ht (List.getElem?_eq_some_iff.1 hc).1) (fun x hx => ?_) fun ls hls => ?_
  · obtain ⟨ls, h1, rfl⟩ := (lkL_lik h ht hc).1 hx
    exact ⟨ls, h1, rfl⟩
  · exact ⟨_, (lkL_lik h ht hc).2 ⟨ls, hls, rfl⟩, rfl⟩
end Go.Ab.T
end

section
namespace Go.Ab.T
set_option maxRecDepth 8000
set_option maxHeartbeats 1000000
theorem CheckTruthR_ok {v : Ev} (hf : farB v = false) : RV ft 42 [encE v] (I64 (errT v 0 0)) := by
  refine RV_of ft42 rfl ?_
  simp only [c42, r42]
  simp only [go_sem, Nat.reduceEqDiff, Nat.reduceAdd, Nat.reduceLT, Nat.reduceLeDiff, reduceIte, WB66, WVH_eq (knownR_ok hf 0 0), true_and]
theorem ReallyR_ok {v : Ev} (hf : farB v = false) (till sh : Int) : RV ft 40 [encE v, I64 till, I64 sh] (.tup [encS (bndR (fun c => c.t.at sh) v till sh).1 (bndR (fun c => c.t.at sh) v till sh).2, I64 (errT v till sh)]) := by
  refine RV_of ft40 rfl ?_
  simp only [c40, r40]
  have hk := knownR_ok hf till sh
  unfold knL at hk
  unfold bndR
  have sC : ∀ a b : Int, (encS a b).cells = [I64 a, I64 b] := fun _ _ => rfl
  have sA : ∀ a b : Int, (encS a b).isAgg = true := fun _ _ => rfl
  have sE : ∀ a b : Int, AV.agg [I64 a, I64 b] = encS a b := fun _ _ => rfl
  have sw : ∀ a b c d : Int, writeCells (encS a b) 0 [I64 c, I64 d] = some (encS c d) := fun _ _ _ _ => rfl
  have hfp0 : fillParts [I64 0, I64 0] [] = some [I64 0, I64 0] := rfl
  have hfp2 : ∀ a b : Int, fillParts [I64 0, I64 0] [(0, 1, I64 a), (1, 1, I64 b)] = some [I64 a, I64 b] := fun _ _ => rfl
  by_cases he : errT v till sh = 0
  rotate_left
  · rw [if_neg he, if_neg he] at hk
    rw [if_neg he]
    simp only [go_sem, Nat.reduceEqDiff, Nat.reduceAdd, Nat.reduceLT, Nat.reduceLeDiff, reduceIte, WB66, WVH_eq hk, true_and, bne_iff_ne.2 he, hfp0, sE, sC, sA, sw]
    try rfl
  obtain ⟨h, ⟨t0, t1⟩, ⟨s0, s1⟩, ht⟩ := errT0 he
  have hk3 := h.k3
  rw [he, if_pos rfl, if_pos rfl] at hk
  rw [he, if_pos rfl]
  obtain ⟨i, rfl⟩ := Int.eq_ofNat_of_zero_le t0
  obtain ⟨s, rfl⟩ := Int.eq_ofNat_of_zero_le s0
  have hi : i < v.cs.length := by omega
  have hs : s < v.pr.length := by omega
  rw [Int.toNat_natCast]
  have hrow : ∀ ls ∈ lkL v, ∃ l x, ls[i]? = some l ∧ l[s]? = some x ∧ (ls.getD i []).getD s 0 = x := fun ls hls => by
    obtain ⟨hT, _⟩ := (lkL_mem h ht).1 hls
    have hlen := IsT_len hT.2
    rw [List.length_map] at hlen
    have h1 : ls[i]? = some ls[i] := List.getElem?_eq_getElem (by omega)
    have hl := hT.1 ls[i] (List.mem_of_getElem? h1)
    have h2 : ls[i][s]? = some ls[i][s] := List.getElem?_eq_getElem (by omega)
    refine ⟨_, _, h1, h2, ?_⟩
    rw [List.getD_eq_getElem?_getD, List.getD_eq_getElem?_getD, h1]
    show ((ls[i])[s]?).getD 0 = _
    rw [h2]; rfl
  obtain ⟨g, hg⟩ : ∃ g : List (List Int) → Int, g = fun ls => (ls.getD i []).getD s 0 := ⟨_, rfl⟩
  have hgx : ∀ ls x, (ls.getD i []).getD s 0 = x → g ls = x := fun ls x e => by rw [hg]; exact e
  obtain ⟨l0, r0, hl0⟩ : ∃ l0 r0, lkL v = l0 :: r0 := by
    cases e : lkL v with
    | nil => exact absurd e (lkL_ne h ht)
    | cons l0 r0 => exact ⟨l0, r0, rfl⟩
  have hm0 : l0 ∈ lkL v := by rw [hl0]; simp
  have hfin := really_lk h ht hi (show s < 3 by omega) hm0
  rw [← hg, show (l0.getD i []).getD s 0 = g l0 by rw [hg]] at hfin
  obtain ⟨l, x, h1, h2, h3⟩ := hrow l0 hm0
  have hx0 := hgx l0 x h3
  have hz : ∀ m, idxAt m (encIsss (lkL v)) (.int .i64 0) 1 = some (.pv (encIss l0) 0) := fun m => Isss_idx (k := 0) (by rw [hl0]; rfl) m
  simp only [go_sem, Nat.reduceEqDiff, Nat.reduceAdd, Nat.reduceLT, Nat.reduceLeDiff, reduceIte, WB66, WVH_eq hk, true_and, bne_self_eq_false, hz, Iss_idx h1, Is_idx h2, hfp2, sE, sC, sA, sw]
  refine WL_inv (α := Nat × List (List (List Int)) × (Int × Int)) (fun q e mm => e 1 = I64 i ∧ e 2 = I64 s ∧ e 6 = .ptr 1 0 0 ∧ e 8 = encIsss (lkL v) ∧ e 11 = .ptr 2 0 0 ∧ e 12 = I64 q.1 ∧ (lkL v).drop q.1 = q.2.1 ∧ bndG g q.2.1 q.2.2 = bndG g (lkL v) (x, x) ∧ mm = ⟨[.live [encE v] 4, .live [encS 0 0] 2, .live [encS q.2.2.1 q.2.2.2] 2], []⟩) (fun q => q.2.1.length) (0, lkL v, (x, x)) ?_ ?_
  · simp only [go_sem, Nat.reduceEqDiff, Nat.reduceAdd, Nat.reduceLT, Nat.reduceLeDiff, reduceIte]
    ((repeat' apply And.intro) <;> first | trivial | rfl | assumption | omega)
  rintro ⟨k, r, ⟨lo, hi2⟩⟩ e m ⟨g1, g2, g6, g8, g11, g12, hd, hq, rfl⟩
  dsimp only at g12 hd hq
  cases r with
  | nil =>
    have h3 := drop_nil hd
    simp only [bndG] at hq
    rw [← hx0, hfin] at hq
    simp only [go_sem, Nat.reduceEqDiff, Nat.reduceAdd, Nat.reduceLT, Nat.reduceLeDiff, reduceIte, g1, g2, g6, g8, g11, g12, dec_ge h3, sC, sA, sE, sw]
    rw [← hq]
    rfl
  | cons ls r =>
    obtain ⟨hkl, hd2, hlt⟩ := drop_cons hd
    obtain ⟨l', x', h1', h2', h3'⟩ := hrow ls (List.mem_of_getElem? hkl)
    have hx' := hgx ls x' h3'
    have hkb : k < 134217728 := by
      have hE := EV_of hf (EV4_of.2 h)
      have := trL_len (toV v.pr) v.cs (likV v 0).2 v.se (by rw [h.sl]; exact h.k3) hE.r7
      have h9 : (lkL v).length ≤ 134217728 := Nat.le_trans this (Nat.le_trans (Nat.pow_le_pow_right (by omega) hE.n3) (by decide))
      omega
    simp only [go_sem, Nat.reduceEqDiff, Nat.reduceAdd, Nat.reduceLT, Nat.reduceLeDiff, reduceIte, g1, g2, g6, g8, g11, g12, dec_lt hlt, Isss_idx hkl, Iss_idx h1', Is_idx h2', hfp2, sE, sC, sA, sw, wrap_n1 k (by omega)]
    refine Nx_of (k + 1, r, (min lo x', max hi2 x')) (by simp) ?_
    simp only [go_sem, Nat.reduceEqDiff, Nat.reduceAdd, Nat.reduceLT, Nat.reduceLeDiff, reduceIte, g1, g2, g6, g8, g11]
    simp only [bndG, hx'] at hq
    ((repeat' apply And.intro) <;> first | trivial | rfl | assumption | omega | (exact hd2) | (exact hq))
theorem MissingR_ok {v : Ev} (hf : farB v = false) (till : Int) : RV ft 41 [encE v, I64 till] (.tup [encS (bndR Ch.m v till 0).1 (bndR Ch.m v till 0).2, I64 (errT v till 0)]) := by
  refine RV_of ft41 rfl ?_
  simp only [c41, r41]
  have hk := knownR_ok hf till 0
  unfold knL at hk
  unfold bndR
  have sC : ∀ a b : Int, (encS a b).cells = [I64 a, I64 b] := fun _ _ => rfl
  have sA : ∀ a b : Int, (encS a b).isAgg = true := fun _ _ => rfl
  have sE : ∀ a b : Int, AV.agg [I64 a, I64 b] = encS a b := fun _ _ => rfl
  have sw : ∀ a b c d : Int, writeCells (encS a b) 0 [I64 c, I64 d] = some (encS c d) := fun _ _ _ _ => rfl
  have hfp0 : fillParts [I64 0, I64 0] [] = some [I64 0, I64 0] := rfl
  have hfp2 : ∀ a b : Int, fillParts [I64 0, I64 0] [(0, 1, I64 a), (1, 1, I64 b)] = some [I64 a, I64 b] := fun _ _ => rfl
  by_cases he : errT v till 0 = 0
  rotate_left
  · rw [if_neg he, if_neg he] at hk
    rw [if_neg he]
    simp only [go_sem, Nat.reduceEqDiff, Nat.reduceAdd, Nat.reduceLT, Nat.reduceLeDiff, reduceIte, WB66, WVH_eq hk, true_and, bne_iff_ne.2 he, hfp0, sE, sC, sA, sw]
    try rfl
  obtain ⟨h, ⟨t0, t1⟩, _, ht⟩ := errT0 he
  have hk3 := h.k3
  rw [he, if_pos rfl, if_pos rfl] at hk
  rw [he, if_pos rfl]
  obtain ⟨i, rfl⟩ := Int.eq_ofNat_of_zero_le t0
  have hi : i < v.cs.length := by omega
  rw [Int.toNat_natCast]
  obtain ⟨c, hc⟩ : ∃ c, v.cs[i]? = some c := ⟨_, List.getElem?_eq_getElem hi⟩
  have hco := h.cs c (List.mem_of_getElem? hc)
  have hca := hco.ca
  have hfl := hco.fl
  obtain ⟨g, hg⟩ : ∃ g : List (List Int) → Int, g = fun ls => miss (toV v.pr) c (toV (ls.getD i [])) := ⟨_, rfl⟩
  have hrow : ∀ ls ∈ lkL v, ∃ l, ls[i]? = some l ∧ RV ft 25 [encE v, I64 (i : Int), encIs l] (I64 (dueL v c l)) ∧ g ls = dueL v c l - c.ca ∧ (-4000000 ≤ dueL v c l ∧ dueL v c l ≤ 4000000) := fun ls hls => by
    obtain ⟨hT, _⟩ := (lkL_mem h ht).1 hls
    have hlen := IsT_len hT.2
    rw [List.length_map] at hlen
    have h1 : ls[i]? = some ls[i] := List.getElem?_eq_getElem (by omega)
    have hTL := TL.of_tr h hT ls[i] (List.mem_of_getElem? h1)
    refine ⟨_, h1, Due_ok h hc hTL, ?_, ?_⟩
    · rw [hg]
      show miss (toV v.pr) c (toV (ls.getD i [])) = _
      rw [List.getD_eq_getElem?_getD, h1]
      rfl
    · have hbx : (toV ls[i]).bd 20 := by have := toV_bd hTL.bd (by omega) (by omega); simp only [V3.bd]; omega
      have hbb := dot_bd (a := toV ls[i]) (p := toV v.pr) (by simp only [V3.bd] at hbx ⊢; omega) h.ppos
      unfold dueL
      omega
  obtain ⟨l0, r0, hl0⟩ : ∃ l0 r0, lkL v = l0 :: r0 := by
    cases e : lkL v with
    | nil => exact absurd e (lkL_ne h ht)
    | cons l0 r0 => exact ⟨l0, r0, rfl⟩
  have hm0 : l0 ∈ lkL v := by rw [hl0]; simp
  have hfin := missing_lk h ht hc hm0
  rw [← hg, show miss (toV v.pr) c (toV (l0.getD i [])) = g l0 by rw [hg]] at hfin
  obtain ⟨l, h1, h2, hx0, hb0⟩ := hrow l0 hm0
  have hz : ∀ m, idxAt m (encIsss (lkL v)) (.int .i64 0) 1 = some (.pv (encIss l0) 0) := fun m => Isss_idx (k := 0) (by rw [hl0]; rfl) m
  simp only [go_sem, Nat.reduceEqDiff, Nat.reduceAdd, Nat.reduceLT, Nat.reduceLeDiff, reduceIte, WB66, WVH_eq hk, true_and, bne_self_eq_false, hz, Iss_idx h1, WB25, WVH_eq h2, ECells, Cs_idx hc, CCells, wrap_i64 (dueL v c l - c.ca) (by omega) (by omega), hfp2, sE, sC, sA, sw]
  obtain ⟨x, hxx⟩ : ∃ x, x = dueL v c l - c.ca := ⟨_, rfl⟩
  rw [← hxx] at hx0 ⊢
  refine WL_inv (α := Nat × List (List (List Int)) × (Int × Int)) (fun q e mm => e 1 = I64 i ∧ e 2 = .ptr 0 0 0 ∧ e 4 = .ptr 1 0 0 ∧ e 6 = encIsss (lkL v) ∧ e 10 = .ptr 2 0 0 ∧ e 11 = I64 q.1 ∧ (lkL v).drop q.1 = q.2.1 ∧ bndG g q.2.1 q.2.2 = bndG g (lkL v) (x, x) ∧ mm = ⟨[.live [encE v] 4, .live [encS 0 0] 2, .live [encS q.2.2.1 q.2.2.2] 2], []⟩) (fun q => q.2.1.length) (0, lkL v, (x, x)) ?_ ?_
  · simp only [go_sem, Nat.reduceEqDiff, Nat.reduceAdd, Nat.reduceLT, Nat.reduceLeDiff, reduceIte]
    ((repeat' apply And.intro) <;> first | trivial | rfl | assumption | omega)
  rintro ⟨k, r, ⟨lo, hi2⟩⟩ e m ⟨g1, g2, g4, g6, g10, g11, hd, hq, rfl⟩
  dsimp only at g11 hd hq
  cases r with
  | nil =>
    have h3 := drop_nil hd
    simp only [bndG] at hq
    rw [← hx0, hfin] at hq
    simp only [go_sem, Nat.reduceEqDiff, Nat.reduceAdd, Nat.reduceLT, Nat.reduceLeDiff, reduceIte, g1, g2, g4, g6, g10, g11, dec_ge h3, sC, sA, sE, sw]
    rw [← hq]
    rfl
  | cons ls r =>
    obtain ⟨hkl, hd2, hlt⟩ := drop_cons hd
    obtain ⟨l', h1', h2', hx', hb'⟩ := hrow ls (List.mem_of_getElem? hkl)
    have hkb : k < 134217728 := by
      have hE := EV_of hf (EV4_of.2 h)
      have := trL_len (toV v.pr) v.cs (likV v 0).2 v.se (by rw [h.sl]; exact h.k3) hE.r7
      have h9 : (lkL v).length ≤ 134217728 := Nat.le_trans this (Nat.le_trans (Nat.pow_le_pow_right (by omega) hE.n3) (by decide))
      omega
    simp only [go_sem, Nat.reduceEqDiff, Nat.reduceAdd, Nat.reduceLT, Nat.reduceLeDiff, reduceIte, g1, g2, g4, g6, g10, g11, dec_lt hlt, Isss_idx hkl, Iss_idx h1', WB25, WVH_eq h2', true_and, ECells, Cs_idx hc, CCells, wrap_i64 (dueL v c l' - c.ca) (by omega) (by omega), hfp2, sE, sC, sA, sw, wrap_n1 k (by omega)]
    refine Nx_of (k + 1, r, (min lo (dueL v c l' - c.ca), max hi2 (dueL v c l' - c.ca))) (by simp) ?_
    simp only [go_sem, Nat.reduceEqDiff, Nat.reduceAdd, Nat.reduceLT, Nat.reduceLeDiff, reduceIte, g1, g2, g4, g6, g10]
    simp only [bndG, hx'] at hq
    ((repeat' apply And.intro) <;> first | trivial | rfl | assumption | omega | (exact hd2) | (exact hq))
end Go.Ab.T
end
