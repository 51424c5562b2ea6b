/-
  A part of the proofs over this seat.
  (The texts KwK35, one behind the other.)
-/
import Derived.Test.YtikfmbopfconkaaP13
set_option linter.unusedSimpArgs false
set_option linter.unusedVariables false
set_option linter.unusedSectionVars false
section
namespace Go.Ab.T
set_option maxRecDepth 8000
set_option maxHeartbeats 4000000
/-- An easier deal. -/
def easeD (d : Dl) (fr to tm : Int) : Dl :=
  if (d.kind == 1) = true then ⟨d.kind, d.film, d.fr, d.to, d.early, d.late, d.seats, max 0 (d.times - tm)⟩
  else if (d.kind == 2) = true then ⟨d.kind, d.film, d.fr, d.to, d.early, d.late, d.seats, min 8 (d.times + tm)⟩
  else ⟨d.kind, d.film, d.fr + fr, d.to - to, d.early, d.late, d.seats, d.times⟩
section
variable {d d' : Dl} (hs : d'.seats = d.seats)
include hs
theorem scrN_d (w : Wk) (sh day h : Nat) : ∀ (l : List Int) (k : Nat), scrN w d' sh day h l k = scrN w d sh day h l k
  | [], _ => rfl
  | x :: l, k => by rw [scrN, scrN, hs, scrN_d w sh day h l]
variable (he : d'.early = d.early) (hl : d'.late = d.late)
include he hl
theorem hasScrN_d (w : Wk) (sh day : Nat) : ∀ (l : List Int) (k : Nat), hasScrN w d' sh day l k = hasScrN w d sh day l k
  | [], _ => rfl
  | x :: l, k => by rw [hasScrN, hasScrN, hs, he, hl, hasScrN_d w sh day l]
omit he hl in
theorem hourN_d (w : Wk) (sh day : Nat) : ∀ n h, hourN w d' sh day n h = hourN w d sh day n h
  | 0, _ => rfl
  | n + 1, h => by rw [hourN, hourN, scrN_d hs, hourN_d w sh day n]
theorem hrsN_d (w : Wk) (sh : Nat) : ∀ n day, hrsN w d' sh n day = hrsN w d sh n day
  | 0, _ => rfl
  | n + 1, day => by rw [hrsN, hrsN, hourN_d hs, he, hl, hrsN_d w sh n]
end
theorem keepsB_sub (w : Wk) {d : Dl} {sh : Nat} {f t : Int} (k1 : (d.kind == 1) = false) (k2 : (d.kind == 2) = false) (h0 : 0 ≤ d.fr) (hf : d.fr ≤ f) (ht : t ≤ d.to) (hft : f ≤ t) (h : keepsB w d sh = true) : keepsB w ⟨d.kind, d.film, f, t, d.early, d.late, d.seats, d.times⟩ sh = true := by
  unfold keepsB at h ⊢
  dsimp only
  rw [k1, k2, if_neg (by decide), if_neg (by decide)] at h ⊢
  have key : ∀ g : Nat → Bool, allN (d.to.toNat + 1 - d.fr.toNat) d.fr.toNat g = true → allN (t.toNat + 1 - f.toNat) f.toNat g = true := fun g hg => by
    rw [allN_iff] at hg ⊢
    exact fun i h1 h2 => hg i (by omega) (by omega)
  cases k4 : d.kind == 4
  case true =>
    rw [k4, if_pos rfl] at h
    rw [if_pos rfl]
    rw [show decide ((((hrs w d sh).foldl max 0 : Nat) : Int) ≤ 1) = decide ((hrs w d sh).foldl max 0 ≤ 1) from decide_eq_decide.2 (by omega), foldl_max_le] at h
    rw [show ∀ l : List Nat, decide (((l.foldl max 0 : Nat) : Int) ≤ 1) = decide (l.foldl max 0 ≤ 1) from fun l => decide_eq_decide.2 (by omega), foldl_max_le]
    unfold hrs at h ⊢
    rw [hrsN_all] at h ⊢
    rw [Bool.and_eq_true] at h ⊢
    refine ⟨h.1, ?_⟩
    simp only [scrN_d (d := d) (d' := ⟨d.kind, d.film, f, t, d.early, d.late, d.seats, d.times⟩) rfl]
    exact key _ h.2
  cases k5 : d.kind == 5
  case true =>
    rw [k4, k5, if_neg (by decide), if_pos rfl] at h
    rw [if_neg (by decide), if_pos rfl]
    rw [show decide ((((hrs w d sh).foldl min 8 : Nat) : Int) ≥ 1) = decide (1 ≤ (hrs w d sh).foldl min 8) from decide_eq_decide.2 (by omega), foldl_min_ge] at h
    rw [show ∀ l : List Nat, decide (((l.foldl min 8 : Nat) : Int) ≥ 1) = decide (1 ≤ l.foldl min 8) from fun l => decide_eq_decide.2 (by omega), foldl_min_ge]
    unfold hrs at h ⊢
    rw [hrsN_all] at h ⊢
    rw [Bool.and_eq_true] at h ⊢
    refine ⟨h.1, ?_⟩
    simp only [scrN_d (d := d) (d' := ⟨d.kind, d.film, f, t, d.early, d.late, d.seats, d.times⟩) rfl]
    exact key _ h.2
  rw [k4, k5, if_neg (by decide), if_neg (by decide), cleanN_eq] at h
  rw [if_neg (by decide), if_neg (by decide), cleanN_eq]
  simp only [hasScrN_d (d := d) (d' := ⟨d.kind, d.film, f, t, d.early, d.late, d.seats, d.times⟩) rfl rfl rfl]
  exact key _ h
theorem ease_keeps (w : Wk) {d : Dl} (hd : DV w d) {fr to tm : Int} (h1 : 0 ≤ fr) (h2 : 0 ≤ to) (h3 : 0 ≤ tm) (hv : DV w (easeD d fr to tm)) {sh : Nat} (h : keepsB w d sh = true) : keepsB w (easeD d fr to tm) sh = true := by
  have htm := hd.tm
  cases k1 : d.kind == 1
  case true =>
    have he : easeD d fr to tm = ⟨d.kind, d.film, d.fr, d.to, d.early, d.late, d.seats, max 0 (d.times - tm)⟩ := by unfold easeD; rw [if_pos k1]
    rw [he]
    unfold keepsB at h ⊢
    dsimp only
    rw [k1, if_pos rfl] at h ⊢
    have h := of_decide_eq_true h
    unfold tmOK at htm
    rw [k1, Bool.true_or, if_pos rfl, inR_iff] at htm
    refine decide_eq_true ?_
    unfold hrs at h ⊢
    rw [hrsN_d (d := d) (d' := ⟨d.kind, d.film, d.fr, d.to, d.early, d.late, d.seats, max 0 (d.times - tm)⟩) rfl rfl rfl]
    dsimp only
    omega
  cases k2 : d.kind == 2
  case true =>
    have he : easeD d fr to tm = ⟨d.kind, d.film, d.fr, d.to, d.early, d.late, d.seats, min 8 (d.times + tm)⟩ := by unfold easeD; rw [k1, if_neg (by decide), if_pos k2]
    rw [he]
    unfold keepsB at h ⊢
    dsimp only
    rw [k1, k2, if_neg (by decide), if_pos rfl] at h ⊢
    have h := of_decide_eq_true h
    unfold tmOK at htm
    rw [k1, k2, Bool.or_true, if_pos rfl, inR_iff] at htm
    refine decide_eq_true ?_
    unfold hrs at h ⊢
    rw [hrsN_d (d := d) (d' := ⟨d.kind, d.film, d.fr, d.to, d.early, d.late, d.seats, min 8 (d.times + tm)⟩) rfl rfl rfl]
    dsimp only
    omega
  have he : easeD d fr to tm = ⟨d.kind, d.film, d.fr + fr, d.to - to, d.early, d.late, d.seats, d.times⟩ := by unfold easeD; rw [k1, k2, if_neg (by decide), if_neg (by decide)]
  rw [he] at hv ⊢
  have e1 := hv.ft
  dsimp only at e1
  exact keepsB_sub w k1 k2 hd.f0 (by omega) (by omega) e1 h
theorem ease_film (d : Dl) (fr to tm : Int) : (easeD d fr to tm).film = d.film := by unfold easeD; split <;> (try split) <;> rfl
theorem ease_most {w : Wk} (hc : chkW w = 0) {i : Nat} {d : Dl} (hi : w.deals[i]? = some d) {fr to tm : Int} (h1 : 0 ≤ fr) (h2 : 0 ≤ to) (h3 : 0 ≤ tm) (hc2 : chkW (dealsW w (w.deals.set i (easeD d fr to tm))) = 0) {n n' e' : Int} (h : IsMost w n 0) (h' : IsMost (dealsW w (w.deals.set i (easeD d fr to tm))) n' e') : e' = 0 ∧ n ≤ n' := by
  have hds := chkW_DV hc
  have hlt := (List.getElem?_eq_some_iff.1 hi).1
  have hv0 := chkW_DV hc2 (easeD d fr to tm) (show easeD d fr to tm ∈ w.deals.set i (easeD d fr to tm) from List.mem_iff_getElem?.2 ⟨i, List.getElem?_set_self hlt⟩)
  have hv : DV w (easeD d fr to tm) := ⟨hv0.film, hv0.f0, hv0.ft, hv0.t, hv0.e0, hv0.el, hv0.l, hv0.s0, hv0.tm⟩
  have hke : ∀ p, keepsAll w p → keepsAll (dealsW w (w.deals.set i (easeD d fr to tm))) p := fun p hp => by
    rw [keeps_dealsW]
    rw [keepsAll_deals] at hp
    intro x hx
    rcases List.mem_or_eq_of_mem_set hx with hx | rfl
    · exact hp x hx
    · rw [ease_film]
      exact ease_keeps w (hds d (List.mem_of_getElem? hi)) h1 h2 h3 hv (hp d (List.mem_of_getElem? hi))
  rcases h with ⟨e, _⟩ | ⟨_, ⟨p, q1, q2, q3⟩, _⟩
  · cases e
  · rcases h' with ⟨_, _, g3⟩ | ⟨g1, _, g3⟩
    · exact absurd (hke p q2) (g3 p q1)
    · exact ⟨g1, by have := g3 p q1 (hke p q2); rw [take_dealsW, q3] at this; exact this⟩
theorem WeekLess_run (w : Wk) (hfl : FL w) (a b c g : Int) : RV ft 8 [encW w, .agg [I64 a, I64 b, I64 c, I64 g]] (.bool true) := by
  refine RV_of ft8 rfl ?_
  simp only [c8, r8]
  cases hr : readyB w
  case false => simp only [go_sem, Nat.reduceEqDiff, Nat.reduceAdd, Nat.reduceLT, Nat.reduceLeDiff, reduceIte, WCells, WEta, FCells, FEta, DCells, DEta, cellsIs, solidIs, cellsFs, solidFs, cellsDs, solidDs, Bool.and_self, Is_len, Fs_len, Ds_len, true_and, snW, hotW, snD, hotD, snIs, hotIs, WB30, WVH_eq (ready_ok w hfl), hr, WB12, WVH_eq works_ok]
  cases u1 : decide (a < 0)
  case true => simp only [go_sem, Nat.reduceEqDiff, Nat.reduceAdd, Nat.reduceLT, Nat.reduceLeDiff, reduceIte, WCells, WEta, FCells, FEta, DCells, DEta, cellsIs, solidIs, cellsFs, solidFs, cellsDs, solidDs, Bool.and_self, Is_len, Fs_len, Ds_len, true_and, snW, hotW, snD, hotD, snIs, hotIs, WB30, WVH_eq (ready_ok w hfl), hr, u1, WB12, WVH_eq works_ok]
  cases u2 : decide ((w.deals.length : Int) ≤ a)
  case true => simp only [go_sem, Nat.reduceEqDiff, Nat.reduceAdd, Nat.reduceLT, Nat.reduceLeDiff, reduceIte, WCells, WEta, FCells, FEta, DCells, DEta, cellsIs, solidIs, cellsFs, solidFs, cellsDs, solidDs, Bool.and_self, Is_len, Fs_len, Ds_len, true_and, snW, hotW, snD, hotD, snIs, hotIs, WB30, WVH_eq (ready_ok w hfl), hr, u1, u2, WB12, WVH_eq works_ok]
  cases u3 : decide (b < 0)
  case true => simp only [go_sem, Nat.reduceEqDiff, Nat.reduceAdd, Nat.reduceLT, Nat.reduceLeDiff, reduceIte, WCells, WEta, FCells, FEta, DCells, DEta, cellsIs, solidIs, cellsFs, solidFs, cellsDs, solidDs, Bool.and_self, Is_len, Fs_len, Ds_len, true_and, snW, hotW, snD, hotD, snIs, hotIs, WB30, WVH_eq (ready_ok w hfl), hr, u1, u2, u3, WB12, WVH_eq works_ok]
  cases u4 : decide (c < 0)
  case true => simp only [go_sem, Nat.reduceEqDiff, Nat.reduceAdd, Nat.reduceLT, Nat.reduceLeDiff, reduceIte, WCells, WEta, FCells, FEta, DCells, DEta, cellsIs, solidIs, cellsFs, solidFs, cellsDs, solidDs, Bool.and_self, Is_len, Fs_len, Ds_len, true_and, snW, hotW, snD, hotD, snIs, hotIs, WB30, WVH_eq (ready_ok w hfl), hr, u1, u2, u3, u4, WB12, WVH_eq works_ok]
  cases u5 : decide (g < 0)
  case true => simp only [go_sem, Nat.reduceEqDiff, Nat.reduceAdd, Nat.reduceLT, Nat.reduceLeDiff, reduceIte, WCells, WEta, FCells, FEta, DCells, DEta, cellsIs, solidIs, cellsFs, solidFs, cellsDs, solidDs, Bool.and_self, Is_len, Fs_len, Ds_len, true_and, snW, hotW, snD, hotD, snIs, hotIs, WB30, WVH_eq (ready_ok w hfl), hr, u1, u2, u3, u4, u5, WB12, WVH_eq works_ok]
  cases u6 : decide (9 < b)
  case true => simp only [go_sem, Nat.reduceEqDiff, Nat.reduceAdd, Nat.reduceLT, Nat.reduceLeDiff, reduceIte, WCells, WEta, FCells, FEta, DCells, DEta, cellsIs, solidIs, cellsFs, solidFs, cellsDs, solidDs, Bool.and_self, Is_len, Fs_len, Ds_len, true_and, snW, hotW, snD, hotD, snIs, hotIs, WB30, WVH_eq (ready_ok w hfl), hr, u1, u2, u3, u4, u5, u6, WB12, WVH_eq works_ok]
  cases u7 : decide (9 < c)
  case true => simp only [go_sem, Nat.reduceEqDiff, Nat.reduceAdd, Nat.reduceLT, Nat.reduceLeDiff, reduceIte, WCells, WEta, FCells, FEta, DCells, DEta, cellsIs, solidIs, cellsFs, solidFs, cellsDs, solidDs, Bool.and_self, Is_len, Fs_len, Ds_len, true_and, snW, hotW, snD, hotD, snIs, hotIs, WB30, WVH_eq (ready_ok w hfl), hr, u1, u2, u3, u4, u5, u6, u7, WB12, WVH_eq works_ok]
  cases u8 : decide (9 < g)
  case true => simp only [go_sem, Nat.reduceEqDiff, Nat.reduceAdd, Nat.reduceLT, Nat.reduceLeDiff, reduceIte, WCells, WEta, FCells, FEta, DCells, DEta, cellsIs, solidIs, cellsFs, solidFs, cellsDs, solidDs, Bool.and_self, Is_len, Fs_len, Ds_len, true_and, snW, hotW, snD, hotD, snIs, hotIs, WB30, WVH_eq (ready_ok w hfl), hr, u1, u2, u3, u4, u5, u6, u7, u8, WB12, WVH_eq works_ok]
  have hc := ready_chk hr
  have hw := WV_of (chkW_ok hc).1
  have hD := hw.d
  have v1 := of_decide_eq_false u1
  have v2 := of_decide_eq_false u2
  have v3 := of_decide_eq_false u3
  have v4 := of_decide_eq_false u4
  have v5 := of_decide_eq_false u5
  have v6 := of_decide_eq_false u6
  have v7 := of_decide_eq_false u7
  have v8 := of_decide_eq_false u8
  obtain ⟨i, rfl⟩ : ∃ i : Nat, a = (i : Int) := ⟨a.toNat, by omega⟩
  have hi : i < w.deals.length := by omega
  have hms := Most_spec hc
  rcases hms with ⟨e1, e2, e3⟩ | ⟨e1, e2, e3⟩
  · have hM := Most_ok w
    rw [e1] at hM
    simp only [go_sem, Nat.reduceEqDiff, Nat.reduceAdd, Nat.reduceLT, Nat.reduceLeDiff, reduceIte, WCells, WEta, FCells, FEta, DCells, DEta, cellsIs, solidIs, cellsFs, solidFs, cellsDs, solidDs, Bool.and_self, Is_len, Fs_len, Ds_len, true_and, snW, hotW, snD, hotD, snIs, hotIs, WB30, WVH_eq (ready_ok w hfl), hr, u1, u2, u3, u4, u5, u6, u7, u8, WB22, WVH_eq hM, show ((3 : Int) == 3) = true from rfl, WB12, WVH_eq works_ok]
  have hM := Most_ok w
  rw [e1] at hM
  obtain ⟨p0, hp0, hk0, ht0⟩ := e2
  have hwo := without_most hc hi ⟨p0, hp0, hk0⟩
  have hcw := without_chk hc hi
  have hMw := Most_ok (withoutW w i)
  have huw := (Most_spec hcw).uniq hwo
  rw [huw.1, huw.2] at hMw
  have hWo := Without_ok w hw i hi
  have hk1 : keepsD w (andn (allD w) (2 ^ i)) p0 := (without_keeps hw hi p0).1 (by
    rw [show withoutW w i = dealsW w (withoutW w i).deals from rfl, keeps_dealsW]
    rw [keepsAll_deals] at hk0
    exact fun x hx => hk0 x (without_mem hx))
  have hle : (bestO w).1.tk ≤ (mostM (andn (allD w) (2 ^ i)) (bestsL w)).1 := by
    rcases hwo with ⟨h, _⟩ | ⟨_, _, h3⟩
    · cases h
    · have := h3 p0 hp0 ((without_keeps hw hi p0).2 hk1)
      rw [show takeS (withoutW w i) p0 = takeS w p0 from rfl, ht0] at this
      exact this
  have hallm : (mostM (allD w) (bestsL w)).2 = true ∧ (mostM (allD w) (bestsL w)).1 = (bestO w).1.tk := by
    rcases most_spec hc (allD w) with ⟨_, _, h3⟩ | ⟨h1, ⟨q, h2, h3, h4⟩, h5⟩
    · exact absurd ((keepsAll_iff w p0).1 hk0) (h3 p0 hp0)
    · refine ⟨h1, ?_⟩
      have h6 := h5 p0 hp0 ((keepsAll_iff w p0).1 hk0)
      have h7 := e3 q h2 ((keepsAll_iff w q).2 h3)
      omega
  have hco : costO w (i : Int) = ((mostM (andn (allD w) (2 ^ i)) (bestsL w)).1 - (bestO w).1.tk, 0) := by
    unfold costO
    rw [if_pos hc, if_pos (inR_iff.2 ⟨by omega, by omega⟩), if_pos hallm.1, hallm.2, Int.toNat_natCast]
  have hC := Cost_ok w (i : Int)
  rw [hco] at hC
  have l1 := most_le hw (andn (allD w) (2 ^ i))
  have l2 := tk_le hc
  generalize hmm : (mostM (andn (allD w) (2 ^ i)) (bestsL w)).1 = MM at *
  have w1 : IntKind.i64.wrap (MM - (bestO w).1.tk) = MM - (bestO w).1.tk := wrap_i64 _ (by omega) (by omega)
  have ne : ∀ x : Int, (x != x) = false := fun x => by simp
  simp only [go_sem, Nat.reduceEqDiff, Nat.reduceAdd, Nat.reduceLT, Nat.reduceLeDiff, reduceIte, WCells, WEta, FCells, FEta, DCells, DEta, cellsIs, solidIs, cellsFs, solidFs, cellsDs, solidDs, Bool.and_self, Is_len, Fs_len, Ds_len, true_and, snW, hotW, snD, hotD, snIs, hotIs, WB30, WVH_eq (ready_ok w hfl), hr, u1, u2, u3, u4, u5, u6, u7, u8, WB22, WVH_eq hM, show ((0 : Int) == 3) = false from rfl, WB32, WVH_eq hWo, WVH_eq hMw, show ((0 : Int) != 0) = false from rfl, decide_eq_false (show ¬ MM < (bestO w).1.tk by omega), WB26, WVH_eq hC, w1, ne]
  refine Copy_o w hw.small _ _ _ _ fun x1 x2 x3 X hX => ?_
  obtain ⟨p1, p2, p3⟩ := hX.parts
  obtain ⟨a1, a2, a3⟩ := p1.cells
  obtain ⟨b1, b2, b3⟩ := p2.cells
  obtain ⟨d1, d2, d3⟩ := p3.cells
  have hdi : w.deals[i]? = some w.deals[i] := List.getElem?_eq_getElem hi
  generalize hd0 : w.deals[i] = d at hdi
  rcases p3 with ⟨h, _⟩ | ⟨hne, id, hid, hx3, hb⟩
  · rw [List.map_eq_nil_iff] at h; rw [h] at hi; simp at hi
  have hidl := (List.getElem?_eq_some_iff.1 hb).1
  have hn0 : id < X.length + 2 := by simp at hidl; omega
  have hgi : (w.deals.map encD)[i]? = some (encD d) := by rw [List.getElem?_map, hdi]; rfl
  have hdv := chkW_DV hc d (List.mem_of_getElem? hdi)
  have htv := hdv.tm
  have hb0 : ∀ u : List Blk, (Blk.live [encW w] 5 :: Blk.live [.agg [I64 (i : Int), I64 b, I64 c, I64 g]] 4 :: (X ++ u))[id]? = some (.live (w.deals.map encD) 8) := fun u => by
    have := OV.app (n0 := 4) (es := w.deals.map encD) (sz := 8) (v := x3) (bl := [Blk.live [encW w] 5, Blk.live [.agg [I64 (i : Int), I64 b, I64 c, I64 g]] 4] ++ X) (.inr ⟨hne, id, hid, hx3, hb⟩) u
    rw [show Blk.live [encW w] 5 :: Blk.live [.agg [I64 (i : Int), I64 b, I64 c, I64 g]] 4 :: (X ++ u) = ([Blk.live [encW w] 5, Blk.live [.agg [I64 (i : Int), I64 b, I64 c, I64 g]] 4] ++ X) ++ u by simp]
    rw [List.getElem?_append_left hidl]; exact hb
  have hix : ∀ u : List Blk, idxAt ⟨Blk.live [encW w] 5 :: Blk.live [.agg [I64 (i : Int), I64 b, I64 c, I64 g]] 4 :: (X ++ u), []⟩ x3 (I64 (i : Nat)) 8 = some (.ptr id i 0) := fun u => by
    rw [hx3, idxAt_ref, lsz_eq, hb0, List.length_map, if_pos ⟨⟨by omega, by omega⟩, rfl⟩]; simp
  have wr8 : ∀ (d : Dl) (y1 y2 y3 y4 y5 y6 y7 y8 : AV), writeCells (encD d) 0 [y1, y2, y3, y4, y5, y6, y7, y8] = some (.agg [y1, y2, y3, y4, y5, y6, y7, y8]) := fun _ _ _ _ _ _ _ _ _ => rfl
  have hix2 : ∀ u v : List Blk, idxAt ⟨Blk.live [encW w] 5 :: Blk.live [.agg [I64 (i : Int), I64 b, I64 c, I64 g]] 4 :: (X ++ u ++ v), []⟩ x3 (I64 (i : Nat)) 8 = some (.ptr id i 0) := fun u v => by rw [List.append_assoc]; exact hix _
  have hb2 : ∀ u v : List Blk, (Blk.live [encW w] 5 :: Blk.live [.agg [I64 (i : Int), I64 b, I64 c, I64 g]] 4 :: (X ++ u ++ v))[id]? = some (.live (w.deals.map encD) 8) := fun u v => by rw [List.append_assoc]; exact hb0 _
  have hXT : ∀ S T : Blk, (X ++ [S] ++ [T])[X.length]? = some S := fun S T => by rw [List.append_assoc]; exact get_mid X S [T] rfl
  have hne3 : (1 != (X ++ [Blk.live [.agg [I64 w.days, x1, I64 w.hours, x2, x3]] 5]).length + 1 + 1) = true := by simp [bne]
  have hS11 : ∀ (T b' : Blk), ((Blk.live [encW w] 5 :: Blk.live [.agg [I64 (i : Int), I64 b, I64 c, I64 g]] 4 :: (X ++ [Blk.live [.agg [I64 w.days, x1, I64 w.hours, x2, x3]] 5] ++ [T])).set id b')[X.length + 1 + 1]? = some (.live [.agg [I64 w.days, x1, I64 w.hours, x2, x3]] 5) := fun T b' => by
    rw [List.getElem?_set_ne (by omega), List.getElem?_cons_succ, List.getElem?_cons_succ]; exact hXT _ _
  have kp : ∀ {n0 : Nat} {es : List AV} {sz : Nat} {v : AV} (T b' : Blk), sz ≠ 8 → OV n0 es sz v ([Blk.live [encW w] 5, Blk.live [.agg [I64 (i : Int), I64 b, I64 c, I64 g]] 4] ++ X) → OV n0 es sz v ((Blk.live [encW w] 5 :: Blk.live [.agg [I64 (i : Int), I64 b, I64 c, I64 g]] 4 :: (X ++ [Blk.live [.agg [I64 w.days, x1, I64 w.hours, x2, x3]] 5] ++ [T])).set id b') := fun {n0 es sz v} T b' h8 h => by
    have h2 := (h.app ([Blk.live [.agg [I64 w.days, x1, I64 w.hours, x2, x3]] 5] ++ [T])).set (id := id) (b := b') (es2 := w.deals.map encD) (sz2 := 8) (.inr ⟨by rw [List.getElem?_append_left hidl]; exact hb, fun e => h8 e.symm⟩)
    rw [show ([Blk.live [encW w] 5, Blk.live [.agg [I64 (i : Int), I64 b, I64 c, I64 g]] 4] ++ X) ++ ([Blk.live [.agg [I64 w.days, x1, I64 w.hours, x2, x3]] 5] ++ [T]) = Blk.live [encW w] 5 :: Blk.live [.agg [I64 (i : Int), I64 b, I64 c, I64 g]] 4 :: (X ++ [Blk.live [.agg [I64 w.days, x1, I64 w.hours, x2, x3]] 5] ++ [T]) by simp] at h2
    exact h2
  have S1 : ∀ (T b' : Blk) tk q, snap ⟨(Blk.live [encW w] 5 :: Blk.live [.agg [I64 (i : Int), I64 b, I64 c, I64 g]] 4 :: (X ++ [Blk.live [.agg [I64 w.days, x1, I64 w.hours, x2, x3]] 5] ++ [T])).set id b', tk⟩ (q + 2) x1 = encIs w.rooms := fun T b' tk q => (kp T b' (by decide) p1).snapI tk q
  have S2 : ∀ (T b' : Blk) tk q, snap ⟨(Blk.live [encW w] 5 :: Blk.live [.agg [I64 (i : Int), I64 b, I64 c, I64 g]] 4 :: (X ++ [Blk.live [.agg [I64 w.days, x1, I64 w.hours, x2, x3]] 5] ++ [T])).set id b', tk⟩ (q + 4) x2 = encFs w.films := fun T b' tk q => by
    obtain ⟨fs, h2, hfs⟩ := p2
    exact FilmsM.snap (n0 := 4) ⟨fs, kp T b' (by decide) h2, FA.imp (fun x y ⟨c, e, hc⟩ => ⟨c, e, kp T b' (by decide) hc⟩) hfs⟩ tk q
  have S3 : ∀ (T : Blk) tk q, snap ⟨(Blk.live [encW w] 5 :: Blk.live [.agg [I64 (i : Int), I64 b, I64 c, I64 g]] 4 :: (X ++ [Blk.live [.agg [I64 w.days, x1, I64 w.hours, x2, x3]] 5] ++ [T])).set id (.live ((w.deals.set i (easeD d b c g)).map encD) 8), tk⟩ (q + 3) x3 = encDs (w.deals.set i (easeD d b c g)) := fun T tk q => by
    refine OV.snapD (n0 := 0) (.inr ⟨?_, id, Nat.zero_le _, by rw [hx3]; simp, List.getElem?_set_self (List.getElem?_eq_some_iff.1 (hb2 _ _)).1⟩) tk q
    intro h
    have := congrArg List.length h
    simp at this
    rw [this] at hi; simp at hi
  have hEW : AV.agg [I64 w.days, encIs w.rooms, I64 w.hours, encFs w.films, encDs (w.deals.set i (easeD d b c g))] = encW (dealsW w (w.deals.set i (easeD d b c g))) := rfl
  have wt1 : (d.kind == 1 || d.kind == 2) = true → 0 ≤ d.times ∧ d.times ≤ 8 := fun h => by
    unfold tmOK at htv
    rw [h, if_pos rfl] at htv
    exact inR_iff.1 htv
  have f0 := hdv.f0
  have fT := hdv.ft
  have fd := hdv.t
  have b1' := hw.d2
  have hsetE : ∀ x : AV, x = encD (easeD d b c g) → (w.deals.map encD).set i x = (w.deals.set i (easeD d b c g)).map encD := fun x hx => by rw [hx, List.map_set]
  simp only [go_sem, Nat.reduceEqDiff, Nat.reduceAdd, Nat.reduceLT, Nat.reduceLeDiff, reduceIte, a1, a2, a3, b1, b2, b3, d1, d2, d3, DCells, hb0, hix, Nat.zero_add, hgi]
  cases hcc : chkW (dealsW w (w.deals.set i (easeD d b c g))) != 0
  case' false =>
    have hc3 : chkW (dealsW w (w.deals.set i (easeD d b c g))) = 0 := by simpa [bne] using hcc
    obtain ⟨z1, z2⟩ := ease_most hc hdi (by omega : 0 ≤ b) (by omega : 0 ≤ c) (by omega : 0 ≤ g) hc3 (by have := Most_spec hc; rw [e1] at this; exact this) (Most_spec hc3)
    have hM3 := Most_ok (dealsW w (w.deals.set i (easeD d b c g)))
    rw [z1] at hM3
    have z3 := decide_eq_true z2
  all_goals
    cases k1 : d.kind == 1
    case' true =>
      have wt := wt1 (by rw [k1]; rfl)
      have wg : IntKind.i64.wrap (d.times - g) = d.times - g := wrap_i64 _ (by omega) (by omega)
      have hse := hsetE (.agg [I64 d.kind, I64 d.film, I64 d.fr, I64 d.to, I64 d.early, I64 d.late, I64 d.seats, .int .i64 (max 0 (d.times - g))]) (by unfold easeD; rw [if_pos k1]; rfl)
    case' false =>
      cases k2 : d.kind == 2
      case' true =>
        have wt := wt1 (by rw [k2, Bool.or_true])
        have wg : IntKind.i64.wrap (d.times + g) = d.times + g := wrap_i64 _ (by omega) (by omega)
        have hse := hsetE (.agg [I64 d.kind, I64 d.film, I64 d.fr, I64 d.to, I64 d.early, I64 d.late, I64 d.seats, .int .i64 (min 8 (d.times + g))]) (by unfold easeD; rw [k1, if_neg (by decide), if_pos k2]; rfl)
      case' false =>
        have wg : IntKind.i64.wrap (d.fr + b) = d.fr + b := wrap_i64 _ (by omega) (by omega)
        have wg2 : IntKind.i64.wrap (d.to - c) = d.to - c := wrap_i64 _ (by omega) (by omega)
        have hse := hsetE (.agg [I64 d.kind, I64 d.film, .int .i64 (d.fr + b), .int .i64 (d.to - c), I64 d.early, I64 d.late, I64 d.seats, I64 d.times]) (by unfold easeD; rw [k1, k2, if_neg (by decide), if_neg (by decide)]; rfl)
  · simp only [go_sem, Nat.reduceEqDiff, Nat.reduceAdd, Nat.reduceLT, Nat.reduceLeDiff, reduceIte, a1, a2, a3, b1, b2, b3, d1, d2, d3, DCells, hb0, hb2, hix, hix2, hXT, Nat.zero_add, hgi, k1, k2, mnx_max, mnx_min, wr8, hne3, wg, wg2, hse, hS11, S1, S2, S3, hEW, WB15, WVH_eq (CheckR_ok (dealsW w (w.deals.set i (easeD d b c g)))), Bool.or_true, true_and, hcc, WB22, WVH_eq hM3, show ((0 : Int) == 0) = true from rfl, z3, WB12, WVH_eq works_ok]
  · simp only [go_sem, Nat.reduceEqDiff, Nat.reduceAdd, Nat.reduceLT, Nat.reduceLeDiff, reduceIte, a1, a2, a3, b1, b2, b3, d1, d2, d3, DCells, hb0, hb2, hix, hix2, hXT, Nat.zero_add, hgi, k1, k2, mnx_max, mnx_min, wr8, hne3, wg, hse, hS11, S1, S2, S3, hEW, WB15, WVH_eq (CheckR_ok (dealsW w (w.deals.set i (easeD d b c g)))), Bool.or_true, true_and, hcc, WB22, WVH_eq hM3, show ((0 : Int) == 0) = true from rfl, z3, WB12, WVH_eq works_ok]
  · simp only [go_sem, Nat.reduceEqDiff, Nat.reduceAdd, Nat.reduceLT, Nat.reduceLeDiff, reduceIte, a1, a2, a3, b1, b2, b3, d1, d2, d3, DCells, hb0, hb2, hix, hix2, hXT, Nat.zero_add, hgi, k1, mnx_max, mnx_min, wr8, hne3, wg, hse, hS11, S1, S2, S3, hEW, WB15, WVH_eq (CheckR_ok (dealsW w (w.deals.set i (easeD d b c g)))), Bool.or_true, true_and, hcc, WB22, WVH_eq hM3, show ((0 : Int) == 0) = true from rfl, z3, WB12, WVH_eq works_ok]
  · simp only [go_sem, Nat.reduceEqDiff, Nat.reduceAdd, Nat.reduceLT, Nat.reduceLeDiff, reduceIte, a1, a2, a3, b1, b2, b3, d1, d2, d3, DCells, hb0, hb2, hix, hix2, hXT, Nat.zero_add, hgi, k1, k2, mnx_max, mnx_min, wr8, hne3, wg, wg2, hse, hS11, S1, S2, S3, hEW, WB15, WVH_eq (CheckR_ok (dealsW w (w.deals.set i (easeD d b c g)))), Bool.or_true, true_and, hcc, WB12, WVH_eq works_ok]
  · simp only [go_sem, Nat.reduceEqDiff, Nat.reduceAdd, Nat.reduceLT, Nat.reduceLeDiff, reduceIte, a1, a2, a3, b1, b2, b3, d1, d2, d3, DCells, hb0, hb2, hix, hix2, hXT, Nat.zero_add, hgi, k1, k2, mnx_max, mnx_min, wr8, hne3, wg, hse, hS11, S1, S2, S3, hEW, WB15, WVH_eq (CheckR_ok (dealsW w (w.deals.set i (easeD d b c g)))), Bool.or_true, true_and, hcc, WB12, WVH_eq works_ok]
  · simp only [go_sem, Nat.reduceEqDiff, Nat.reduceAdd, Nat.reduceLT, Nat.reduceLeDiff, reduceIte, a1, a2, a3, b1, b2, b3, d1, d2, d3, DCells, hb0, hb2, hix, hix2, hXT, Nat.zero_add, hgi, k1, mnx_max, mnx_min, wr8, hne3, wg, hse, hS11, S1, S2, S3, hEW, WB15, WVH_eq (CheckR_ok (dealsW w (w.deals.set i (easeD d b c g)))), Bool.or_true, true_and, hcc, WB12, WVH_eq works_ok]
end Go.Ab.T
end
