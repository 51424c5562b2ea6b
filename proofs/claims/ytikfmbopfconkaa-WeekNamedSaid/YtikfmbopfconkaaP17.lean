/-
 A part of the proofs over this seat.
 (The texts KwM6 KwK38, one behind the other.)
-/
import Derived.Test.YtikfmbopfconkaaP16
set_option linter.unusedSimpArgs false
set_option linter.unusedVariables false
set_option linter.unusedSectionVars false
section
namespace Go.Ab.T
set_option maxRecDepth 8000
set_option maxHeartbeats 4000000
theorem allD_bit (w : Wk) (n : Nat) : (allD w).testBit n = decide (n < w.deals.length) := Nat.testBit_two_pow_sub_one _ _
theorem sub_bit {w : Wk} {s : Nat} (h : s ∈ subsN (allD w)) {n : Nat} (hn : s.testBit n = true) : n < w.deals.length := by
 obtain ⟨_, h2⟩ := mem_subsN.1 h
 rw [← h2, Nat.testBit_and, Bool.and_eq_true, allD_bit] at hn
 exact of_decide_eq_true hn.2
theorem keeps_sel {w : Wk} {l : List Nat} (hn : ∀ n ∈ l, n < w.deals.length) (p : List Int) : keepsAll (dealsW w (selW w l)) p ↔ ∀ n ∈ l, keepsAt w p n = true := by
 rw [keeps_dealsW]
 unfold selW keepsAt
 refine ⟨fun h n hm => ?_, fun h d hd => ?_⟩
 ·have hd := List.getElem?_eq_getElem (hn n hm)
  rw [hd]
  exact h _ (List.mem_filterMap.2 ⟨n, hm, hd⟩)
 ·obtain ⟨n, hm, hd⟩ := List.mem_filterMap.1 hd
  have := h n hm
  rw [hd] at this; exact this
theorem keepsD_nums (w : Wk) (s : Nat) (p : List Int) : keepsD w s p ↔ ∀ n ∈ numsN s, keepsAt w p n = true := ⟨fun h n hn => h n (mem_numsN.1 hn), fun h n hn => h n (mem_numsN.2 hn)⟩
def numsOne (s i : Nat) : Bool := match (numsN s)[i]? with
 | some x => decide ((numsN s).take i ++ (numsN s).drop (i + 1) = numsN (andn s (2 ^ x))) && decide ((numsN (andn s (2 ^ x))).length < (numsN s).length)
 | none => true
theorem one_tab : ∀ (s : _root_.Fin 256) (i : _root_.Fin 8), numsOne s.val i.val = true := by decide +kernel
def incOne (s i : Nat) : Bool := match (numsN s)[i]?, (numsN s)[i + 1]? with
 | some x, some y => decide (x < y)
 | _, _ => true
theorem inc_tab : ∀ (s : _root_.Fin 256) (i : _root_.Fin 8), incOne s.val i.val = true := by decide +kernel
theorem broken_mem {w : Wk} {p : List Int} : ∀ (l : List Dl) (k j : Nat) (d : Dl), l[j]? = some d → keepsB w d (shownN d.film p 0 0) = false → k + j ∈ brokenL w p l k
 | [], _, _, _, h, _ => by simp at h
 | x :: r, k, 0, d, h, hk => by
  simp at h
  subst h
  unfold brokenL
  rw [hk]; simp
 | x :: r, k, j + 1, d, h, hk => by
  have := broken_mem r (k + 1) j d h hk
  unfold brokenL
  rw [show k + (j + 1) = k + 1 + j by omega]
  split
  ·exact this
  ·exact List.mem_cons_of_mem _ this
theorem prog_ex {w : Wk} (hw : WV w) : ∃ p, progOK w p = true := ⟨List.replicate w.slots.toNat (-1), by
 unfold progOK
 rw [List.length_replicate, Int.toNat_of_nonneg (slots_nn hw)]
 simp only [beq_self_eq_true, Bool.and_true]
 rw [List.all_eq_true]
 intro x hx
 rw [(List.mem_replicate.1 hx).2, shR_eq]; rfl⟩
theorem sel_chk {w : Wk} (hc : chkW w = 0) {l : List Nat} (hl : l.length ≤ 8) : chkW (dealsW w (selW w l)) = 0 :=
 sub_dealsW hc (Nat.le_trans (selW_len w l) hl) fun d h => by
  obtain ⟨n, _, hn⟩ := List.mem_filterMap.1 h
  exact List.mem_of_getElem? hn
theorem clash_none {w : Wk} (hc : chkW w = 0) (h : (clashO w).2 = 3) : (clashO w).1 = [] ∧ (bestO w).2 = 0 := by
 rcases Clash_spec hc with ⟨_, h2, h3⟩ | ⟨h1, _⟩
 ·refine ⟨h2, ?_⟩
  rcases Most_spec hc with ⟨_, _, e3⟩ | ⟨e1, _⟩
  ·exact absurd (fun p hp hk => e3 p hp ((keepsAll_iff w p).2 hk)) (h3 (allD w) (mem_subsN.2 ⟨allD_lt (WV_of (chkW_ok hc).1), Nat.and_self _⟩))
  ·exact e1
 ·omega
/-- What it means that deals are named. -/
theorem clash_some {w : Wk} (hc : chkW w = 0) (h : (clashO w).2 ≠ 3) : ∃ l, (clashO w).1 = l ∧ (clashO w).2 = 0 ∧ (bestO w).2 = 3 ∧ l ≠ [] ∧ l.length ≤ w.deals.length ∧ (∀ n ∈ l, n < w.deals.length) ∧ (∀ i x y, l[i]? = some x → l[i + 1]? = some y → x < y) ∧
  (bestO (dealsW w (selW w l))).2 = 3 ∧ (∀ i, i < l.length → (bestO (dealsW w (selW w (l.take i ++ l.drop (i + 1))))).2 = 0) ∧ ∀ p, progOK w p = true → ∃ x ∈ brokenL w p w.deals 0, x ∈ l := by
 have hw := WV_of (chkW_ok hc).1
 have hD := hw.d
 rcases Clash_spec hc with ⟨h1, _⟩ | ⟨h1, s, hs, hb, he, hmin⟩
 ·exact absurd h1 h
 have hs' := mem_subsN.1 hs
 have hlt : ∀ n ∈ numsN s, n < w.deals.length := fun n hn => sub_bit hs (mem_numsN.1 hn)
 have hlen : (numsN s).length ≤ w.deals.length := by
  have h2 : (numsN s).length ≤ lenN s := by
   have := List.length_filter_le s.testBit (List.range (lenN s))
   rwa [List.length_range] at this
  have h3 : s < 2 ^ w.deals.length := by
   have h4 : s ≤ allD w := by have := Nat.and_le_right (n := s) (m := allD w); rw [hs'.2] at this; exact this
   have := Nat.two_pow_pos w.deals.length
   unfold allD at h4
   omega
  have h5 : lenN s ≤ w.deals.length := by
   unfold lenN
   split
   ·omega
   ·rename_i hz
    have := (Nat.log2_lt hz).2 h3
    omega
  omega
 have hn8 := numsN_len hs'.1
 refine ⟨numsN s, he, h1, ?_, ?_, hlen, hlt, fun i x y hx hy => ?_, ?_, fun i hi => ?_, fun p hp => ?_⟩
 ·rcases Most_spec hc with ⟨e1, _⟩ | ⟨_, ⟨p, h2, h3, _⟩, _⟩
  ·exact e1
  ·exact absurd (fun n hn => h3 n (sub_bit hs hn)) (hb p h2)
 ·intro h0
  obtain ⟨p, hp⟩ := prog_ex hw
  exact hb p hp ((keepsD_nums w s p).2 (by rw [h0]; intro n hn; cases hn))
 ·have hi := (List.getElem?_eq_some_iff.1 hx).1
  have := inc_tab ⟨s, hs'.1⟩ ⟨i, by omega⟩
  unfold incOne at this
  simp only [hx, hy] at this
  exact of_decide_eq_true this
 ·rcases Most_spec (sel_chk hc hn8) with ⟨e1, _⟩ | ⟨_, ⟨p, h2, h3, _⟩, _⟩
  ·exact e1
  ·exact absurd ((keepsD_nums w s p).2 ((keeps_sel hlt p).1 h3)) (hb p h2)
 ·obtain ⟨x, hx⟩ : ∃ x, (numsN s)[i]? = some x := ⟨_, List.getElem?_eq_getElem hi⟩
  have htab := one_tab ⟨s, hs'.1⟩ ⟨i, by omega⟩
  unfold numsOne at htab
  simp only [hx, Bool.and_eq_true, decide_eq_true_eq] at htab
  have hbit : ∀ n, (andn s (2 ^ x)).testBit n = (s.testBit n && !decide (x = n)) := fun n => by
   rw [andn_bit s _ _ (Nat.lt_trans hs'.1 (by decide)), Nat.testBit_two_pow]
  have hsub : andn s (2 ^ x) ∈ subsN (allD w) := mem_subsN.2 ⟨Nat.lt_of_le_of_lt Nat.and_le_left hs'.1, Nat.eq_of_testBit_eq fun n => by
   rw [Nat.testBit_and, hbit]
   cases hn : s.testBit n
   ·rfl
   ·rw [allD_bit, decide_eq_true (sub_bit hs hn), Bool.and_true]⟩
  have hlt2 : ∀ n ∈ numsN (andn s (2 ^ x)), n < w.deals.length := fun n hn => sub_bit hsub (mem_numsN.1 hn)
  rw [htab.1]
  have hnb : ¬Bad w (andn s (2 ^ x)) := fun hbad => by
   have h2 := hmin _ hsub hbad
   rw [(before_iff _ _).2 (.inl htab.2)] at h2
   cases h2
  rcases Most_spec (sel_chk hc (l := numsN (andn s (2 ^ x))) (by omega)) with ⟨_, _, e3⟩ | ⟨e1, _⟩
  ·exact absurd (fun p hp hk => e3 p hp ((keeps_sel hlt2 p).2 ((keepsD_nums w _ p).1 hk))) hnb
  ·exact e1
 ·have h2 := hb p hp
  refine Classical.byContradiction fun hno => h2 fun n hn => ?_
  cases hk : keepsAt w p n
  ·have hnl := sub_bit hs hn
   refine absurd ⟨n, ?_, mem_numsN.2 hn⟩ hno
   unfold keepsAt at hk
   rw [List.getElem?_eq_getElem hnl] at hk
   have := broken_mem w.deals 0 n _ (List.getElem?_eq_getElem hnl) hk
   rwa [Nat.zero_add] at this
  ·rfl
end Go.Ab.T
end

section
namespace Go.Ab.T
set_option maxRecDepth 8000
set_option maxHeartbeats 4000000
theorem WeekNamed_run (w : Wk) (hfl : FL w) (p : List Int) (hpl : p.length < 9223372036854775808) : RV ft 7 [encW w, encIs p] (.bool true) := by
 refine RV_of ft7 rfl ?_
 simp only [c7, r7]
 cases hr : readyB w
 case false => simp only [go_sem, Nat.reduceEqDiff, Nat.reduceAdd, Nat.reduceLT, Nat.reduceLeDiff, reduceIte, WCells, WEta, FCells, FEta, DCells, DEta, cellsIs, solidIs, cellsFs, solidFs, cellsDs, solidDs, Bool.and_self, Is_len, Fs_len, Ds_len, true_and, snW, hotW, snD, hotD, snIs, hotIs, WB30, WVH_eq (ready_ok w hfl), hr, WB12, WVH_eq works_ok]
 have hc := ready_chk hr
 have hw := WV_of (chkW_ok hc).1
 have hD := hw.d
 have hCl := Clash_ok w
 have hM := Most_ok w
 by_cases h3 : (clashO w).2 = 3
 case pos =>
  obtain ⟨e1, e2⟩ := clash_none hc h3
  rw [h3, e1] at hCl
  rw [e2] at hM
  simp only [go_sem, Nat.reduceEqDiff, Nat.reduceAdd, Nat.reduceLT, Nat.reduceLeDiff, reduceIte, WCells, WEta, FCells, FEta, DCells, DEta, cellsIs, solidIs, cellsFs, solidFs, cellsDs, solidDs, Bool.and_self, Is_len, Fs_len, Ds_len, true_and, snW, hotW, snD, hotD, snIs, hotIs, WB30, WVH_eq (ready_ok w hfl), hr, WB24, WVH_eq hCl, WB22, WVH_eq hM, Ns_len, show ((3 : Int) == 3) = true from rfl, show ((0 : Int) == 0) = true from rfl, show (((0 : Nat) : Int) == 0) = true from rfl, List.length_nil, WB12, WVH_eq works_ok]
 obtain ⟨l, e1, e2, e3, hne, hle, hlt, hinc, hm3, hm0, hbr⟩ := clash_some hc h3
 rw [e1, e2] at hCl
 rw [e3] at hM
 have hM3 := Most_ok (dealsW w (selW w l))
 rw [hm3] at hM3
 have l0 : ((l.length : Int) == 0) = false := by
  have := List.length_pos_iff.2 hne
  rw [beq_eq_false_iff_ne]; omega
 have l1 : decide ((w.deals.length : Int) < (l.length : Int)) = false := decide_eq_false (by omega)
 simp only [go_sem, Nat.reduceEqDiff, Nat.reduceAdd, Nat.reduceLT, Nat.reduceLeDiff, reduceIte, WCells, WEta, FCells, FEta, DCells, DEta, cellsIs, solidIs, cellsFs, solidFs, cellsDs, solidDs, Bool.and_self, Is_len, Fs_len, Ds_len, true_and, snW, hotW, snD, hotD, snIs, hotIs, WB30, WVH_eq (ready_ok w hfl), hr, WB24, WVH_eq hCl, WB22, WVH_eq hM, Ns_len, show ((0 : Int) == 3) = false from rfl, show ((0 : Int) != 0) = false from rfl, show ((3 : Int) != 3) = false from rfl, l0, l1]
 refine WL_inv (α := Nat × List Nat) (fun q e mm => e 1 = encIs p ∧ e 2 = .ptr 0 0 0 ∧ e 5 = encNs l ∧ e 9 = I64 q.1 ∧ l.drop q.1 = q.2 ∧ mm = ⟨[.live [encW w] 5], []⟩) (fun q => q.2.length) (0, l) ?_ ?_
 ·simp only [go_sem, Nat.reduceEqDiff, Nat.reduceAdd, Nat.reduceLT, Nat.reduceLeDiff, reduceIte]
  (repeat' apply And.intro) <;> first | trivial | rfl
 rintro ⟨k, r⟩ e m ⟨g1, g2, g5, g9, hdr, rfl⟩
 dsimp only at g9 hdr
 cases r with
 | cons x r =>
  obtain ⟨hk, hd2, hlk⟩ := drop_cons hdr
  have hxl := hlt x (List.mem_of_getElem? hk)
  have x0 : decide ((x : Int) < 0) = false := decide_eq_false (by omega)
  have x1 : decide ((w.deals.length : Int) ≤ (x : Int)) = false := decide_eq_false (by omega)
  cases k with
  | zero =>
   simp only [go_sem, Nat.reduceEqDiff, Nat.reduceAdd, Nat.reduceLT, Nat.reduceLeDiff, reduceIte, g1, g2, g5, g9, WCells, WEta, FCells, FEta, DCells, DEta, cellsIs, solidIs, cellsFs, solidFs, cellsDs, solidDs, Bool.and_self, Is_len, Fs_len, Ds_len, true_and, snW, hotW, snD, hotD, snIs, hotIs, Ns_len, dec_lt hlk, Ns_idx _ hk, x0, x1, show decide ((0 : Int) < ((0 : Nat) : Int)) = false from rfl, wrap_n1 0 (by omega)]
   refine Nx_of (1, r) (by simp) ?_
   simp only [go_sem, Nat.reduceEqDiff, Nat.reduceAdd, Nat.reduceLT, Nat.reduceLeDiff, reduceIte, g1, g2, g5]
   exact ⟨trivial, trivial, trivial, trivial, hd2, trivial⟩
  | succ j =>
   obtain ⟨y, hy⟩ : ∃ y, l[j]? = some y := ⟨_, List.getElem?_eq_getElem (by omega)⟩
   have hxy := hinc j y x hy hk
   have x2 : decide ((x : Int) ≤ (y : Int)) = false := decide_eq_false (by omega)
   have x3 : decide ((0 : Int) < ((j + 1 : Nat) : Int)) = true := decide_eq_true (by omega)
   have x4 : IntKind.i64.wrap (((j + 1 : Nat) : Int) - 1) = (j : Int) := by rw [show ((j + 1 : Nat) : Int) - 1 = (j : Int) by omega]; exact wrap_i64 _ (by omega) (by omega)
   simp only [go_sem, Nat.reduceEqDiff, Nat.reduceAdd, Nat.reduceLT, Nat.reduceLeDiff, reduceIte, g1, g2, g5, g9, WCells, WEta, FCells, FEta, DCells, DEta, cellsIs, solidIs, cellsFs, solidFs, cellsDs, solidDs, Bool.and_self, Is_len, Fs_len, Ds_len, true_and, snW, hotW, snD, hotD, snIs, hotIs, Ns_len, dec_lt hlk, Ns_idx _ hk, Ns_idx _ hy, x0, x1, x2, x3, x4, wrap_n1 (j + 1) (by omega)]
   refine Nx_of (j + 1 + 1, r) (by simp) ?_
   simp only [go_sem, Nat.reduceEqDiff, Nat.reduceAdd, Nat.reduceLT, Nat.reduceLeDiff, reduceIte, g1, g2, g5]
   exact ⟨trivial, trivial, trivial, trivial, hd2, trivial⟩
 | nil =>
 have hge := drop_nil hdr
 simp only [go_sem, Nat.reduceEqDiff, Nat.reduceAdd, Nat.reduceLT, Nat.reduceLeDiff, reduceIte, g1, g2, g5, g9, WCells, WEta, FCells, FEta, DCells, DEta, cellsIs, solidIs, cellsFs, solidFs, cellsDs, solidDs, Bool.and_self, Is_len, Fs_len, Ds_len, true_and, snW, hotW, snD, hotD, snIs, hotIs, Ns_len, dec_ge hge]
 refine Only_o w hw.small l (by omega) hlt _ _ _ _ _ (by simp only [List.map_cons, List.map_nil, dep_eq, snW, Ns_sn]) fun v1 v2 v3 X hX => ?_
 obtain ⟨p1, p2, p3⟩ := hX.parts
 obtain ⟨a1, a2, a3⟩ := p1.cells
 obtain ⟨b1, b2, b3⟩ := p2.cells
 obtain ⟨d1, d2, d3⟩ := p3.cells
 have S1 : ∀ tk q, snap ⟨[Blk.live [encW w] 5] ++ X, tk⟩ (q + 2) v1 = encIs w.rooms := fun tk q => p1.snapI tk q
 have S2 : ∀ tk q, snap ⟨[Blk.live [encW w] 5] ++ X, tk⟩ (q + 4) v2 = encFs w.films := fun tk q => p2.snap tk q
 have S3 : ∀ tk q, snap ⟨[Blk.live [encW w] 5] ++ X, tk⟩ (q + 3) v3 = encDs (selW w l) := fun tk q => p3.snapD tk q
 have hEW : ∀ l', AV.agg [I64 w.days, encIs w.rooms, I64 w.hours, encFs w.films, encDs (selW w l')] = encW (dealsW w (selW w l')) := fun l' => rfl
 generalize hBL : [Blk.live [encW w] 5] ++ X = BL0 at S1 S2 S3
 simp only [go_sem, Nat.reduceEqDiff, Nat.reduceAdd, Nat.reduceLT, Nat.reduceLeDiff, reduceIte, hBL, S1, S2, S3, hEW, Bool.or_true, true_and, WB22, WVH_eq hM3, show ((3 : Int) != 3) = false from rfl]
 refine WL_inv (α := Nat × List Nat) (fun q e mm => e 1 = encIs p ∧ e 2 = .ptr 0 0 0 ∧ e 5 = encNs l ∧ e 12 = I64 q.1 ∧ l.drop q.1 = q.2 ∧ ∃ BL, mm = ⟨BL, []⟩ ∧ BL[0]? = some (.live [encW w] 5)) (fun q => q.2.length) (0, l) ?_ ?_
 ·simp only [go_sem, Nat.reduceEqDiff, Nat.reduceAdd, Nat.reduceLT, Nat.reduceLeDiff, reduceIte]
  refine ⟨g1, g2, g5, rfl, trivial, _, rfl, ?_⟩
  rw [← hBL]; rfl
 rintro ⟨k, r⟩ e m ⟨g1, g2, g5, g12, hdr, BL, rfl, hB⟩
 dsimp only at g12 hdr
 have hBl := (List.getElem?_eq_some_iff.1 hB).1
 cases r with
 | cons x r =>
  obtain ⟨hk, hd2, hlk⟩ := drop_cons hdr
  have hsl1 : ∀ m : Mem, sliceAt m (encNs l) none (some (I64 k)) 1 = some (.sl ((l.take k).map fun (n : Nat) => I64 (n : Int)) .unk) := fun m => by
   unfold encNs
   rw [sliceAt_sl, hdSz_map' (fun (n : Nat) => I64 (n : Int)) 1 l fun x => rfl, if_pos rfl, bounds_ns, if_pos ⟨by omega, by omega, by simp; omega⟩]
   simp [List.map_take]
  have hsl2 : ∀ m : Mem, sliceAt m (encNs l) (some (I64 (k + 1 : Nat))) none 1 = some (.sl ((l.drop (k + 1)).map fun (n : Nat) => I64 (n : Int)) .unk) := fun m => by
   unfold encNs
   rw [sliceAt_sl, hdSz_map' (fun (n : Nat) => I64 (n : Int)) 1 l fun x => rfl, if_pos rfl, bounds_sn, if_pos ⟨by omega, by simp; omega, Int.le_refl _⟩]
   simp only [Option.map_some, Int.toNat_natCast, List.length_map, List.map_drop]
   rw [List.take_of_length_le (by simp)]
  obtain ⟨u1, x1, ha1, ho1⟩ := app0_ok (es := (l.take k).map fun (n : Nat) => I64 (n : Int)) (q := .unk) (bl := BL) (tk := []) (n0 := BL.length) (sz := 1) (bytes := 8) (Nat.le_refl _) (fun e he => by obtain ⟨z, _, rfl⟩ := List.mem_map.1 he; rfl) (by rw [List.length_map, List.length_take]; simp only [limit]; omega)
  obtain ⟨u2, b2, ha2, ho2, hl2, hk2⟩ := appOwn_ok (q := .unk) (T := 3) (bytes := 8) (tk := []) (ys := (l.drop (k + 1)).map fun (n : Nat) => I64 (n : Int)) ho1 (by simp) (fun e he => by obtain ⟨z, _, rfl⟩ := List.mem_map.1 he; rfl) (fun e he => by obtain ⟨z, _, rfl⟩ := List.mem_map.1 he; rfl) (by rw [List.length_map, List.length_map, List.length_take, List.length_drop]; simp only [limit]; omega)
  have hap : apart (.ptr 0 0 0) u1 = true := by
   rcases ho1 with ⟨_, rfl⟩ | ⟨_, id, hid, rfl, _⟩
   ·rfl
   ·show (0 != id) = true
    simp [bne]; omega
  have hB2 : b2[0]? = some (.live [encW w] 5) := by rw [hk2 0 hBl, List.getElem?_append_left hBl]; exact hB
  have w1 : IntKind.i64.wrap ((k : Int) + 1) = ((k + 1 : Nat) : Int) := wrap_n1 k (by omega)
  have hM0 := Most_ok (dealsW w (selW w (l.take k ++ l.drop (k + 1))))
  rw [hm0 k hlk] at hM0
  have hlt2 : ∀ n ∈ l.take k ++ l.drop (k + 1), n < w.deals.length := fun n hn => by
   rcases List.mem_append.1 hn with hn | hn
   ·exact hlt n (List.mem_of_mem_take hn)
   ·exact hlt n (List.mem_of_mem_drop hn)
  simp only [go_sem, Nat.reduceEqDiff, Nat.reduceAdd, Nat.reduceLT, Nat.reduceLeDiff, reduceIte, g1, g2, g5, g12, WCells, WEta, FCells, FEta, DCells, DEta, cellsIs, solidIs, cellsFs, solidFs, cellsDs, solidDs, Bool.and_self, Is_len, Fs_len, Ds_len, true_and, snW, hotW, snD, hotD, snIs, hotIs, Ns_len, dec_lt hlk, hB, hsl1, hsl2, w1, ha1, ha2]
  refine Only_o w hw.small (l.take k ++ l.drop (k + 1)) (by simp; omega) hlt2 _ _ _ _ _ ?_ fun v1 v2 v3 X hX => ?_
  ·simp only [List.map_cons, List.map_nil, dep_eq, snW]
   rw [ho2.snap, ← List.map_append, List.map_map]
   rfl
  obtain ⟨p1, p2, p3⟩ := hX.parts
  obtain ⟨a1, a2, a3⟩ := p1.cells
  obtain ⟨b1, b2', b3⟩ := p2.cells
  obtain ⟨d1, d2, d3⟩ := p3.cells
  have S1 : ∀ tk q, snap ⟨b2 ++ X, tk⟩ (q + 2) v1 = encIs w.rooms := fun tk q => p1.snapI tk q
  have S2 : ∀ tk q, snap ⟨b2 ++ X, tk⟩ (q + 4) v2 = encFs w.films := fun tk q => p2.snap tk q
  have S3 : ∀ tk q, snap ⟨b2 ++ X, tk⟩ (q + 3) v3 = encDs (selW w (l.take k ++ l.drop (k + 1))) := fun tk q => p3.snapD tk q
  simp only [go_sem, Nat.reduceEqDiff, Nat.reduceAdd, Nat.reduceLT, Nat.reduceLeDiff, reduceIte, g1, g2, g5, g12, S1, S2, S3, hEW, Bool.or_true, true_and, WB22, WVH_eq hM0, chkAll, hap, List.all_cons, List.all_nil, Bool.and_true, show ((0 : Int) != 0) = false from rfl, w1]
  refine Nx_of (k + 1, r) (by simp) ?_
  simp only [go_sem, Nat.reduceEqDiff, Nat.reduceAdd, Nat.reduceLT, Nat.reduceLeDiff, reduceIte, g1, g2, g5]
  refine ⟨trivial, trivial, trivial, trivial, hd2, _, rfl, ?_⟩
  rw [List.getElem?_append_left (List.getElem?_eq_some_iff.1 hB2).1]; exact hB2
 | nil =>
 have hge := drop_nil hdr
 cases hp : progOK w p
 case false =>
  have hIP := IsProgram_ok w hw p hpl
  rw [hp] at hIP
  simp only [go_sem, Nat.reduceEqDiff, Nat.reduceAdd, Nat.reduceLT, Nat.reduceLeDiff, reduceIte, g1, g2, g5, g12, WCells, WEta, FCells, FEta, DCells, DEta, cellsIs, solidIs, cellsFs, solidFs, cellsDs, solidDs, Bool.and_self, Is_len, Fs_len, Ds_len, true_and, snW, hotW, snD, hotD, snIs, hotIs, Ns_len, dec_ge hge, hB, WB29, WVH_eq hIP, WB12, WVH_eq works_ok]
 have hIP := IsProgram_ok w hw p hpl
 rw [hp] at hIP
 have hBr := Broken_at hc hp
 have hb8 := broken_len hc p
 obtain ⟨z, hz, hzl⟩ := hbr p hp
 generalize brokenL w p w.deals 0 = bad at *
 simp only [go_sem, Nat.reduceEqDiff, Nat.reduceAdd, Nat.reduceLT, Nat.reduceLeDiff, reduceIte, g1, g2, g5, g12, WCells, WEta, FCells, FEta, DCells, DEta, cellsIs, solidIs, cellsFs, solidFs, cellsDs, solidDs, Bool.and_self, Is_len, Fs_len, Ds_len, true_and, snW, hotW, snD, hotD, snIs, hotIs, Ns_len, dec_ge hge, hB, WB29, WVH_eq hIP, WB16, WVH_eq hBr]
 refine WL_inv (α := Nat × List Nat) (fun q e mm => e 5 = encNs l ∧ e 15 = encNs bad ∧ e 16 = I64 0 ∧ e 17 = I64 q.1 ∧ bad.drop q.1 = q.2 ∧ (∃ x ∈ q.2, x ∈ l) ∧ mm = ⟨BL, []⟩) (fun q => q.2.length) (0, bad) ?_ ?_
 ·simp only [go_sem, Nat.reduceEqDiff, Nat.reduceAdd, Nat.reduceLT, Nat.reduceLeDiff, reduceIte, g5]
  exact ⟨trivial, trivial, trivial, rfl, trivial, ⟨z, hz, hzl⟩, trivial⟩
 rintro ⟨i, r⟩ e m ⟨g5, g15, g16, g17, hdi, hex, rfl⟩
 dsimp only at g17 hdi hex
 cases r with
 | nil => obtain ⟨x, hx, _⟩ := hex; cases hx
 | cons x r =>
  obtain ⟨hi, hd2, hli⟩ := drop_cons hdi
  simp only [go_sem, Nat.reduceEqDiff, Nat.reduceAdd, Nat.reduceLT, Nat.reduceLeDiff, reduceIte, g5, g15, g16, g17, Ns_len, dec_lt hli]
  refine WL_inv (α := Nat × List Nat) (fun q e mm => e 5 = encNs l ∧ e 15 = encNs bad ∧ e 16 = I64 0 ∧ e 17 = I64 i ∧ e 18 = I64 q.1 ∧ l.drop q.1 = q.2 ∧ (x ∈ q.2 ∨ ∃ y ∈ r, y ∈ l) ∧ mm = ⟨BL, []⟩) (fun q => q.2.length) (0, l) ?_ ?_
  ·simp only [go_sem, Nat.reduceEqDiff, Nat.reduceAdd, Nat.reduceLT, Nat.reduceLeDiff, reduceIte, g5, g15, g16, g17]
   refine ⟨trivial, trivial, trivial, trivial, rfl, trivial, ?_, trivial⟩
   obtain ⟨y, hy, hyl⟩ := hex
   rcases List.mem_cons.1 hy with rfl | hy
   ·exact .inl hyl
   ·exact .inr ⟨y, hy, hyl⟩
  rintro ⟨k, u⟩ e m ⟨g5, g15, g16, g17, g18, hdk, hor, rfl⟩
  dsimp only at g18 hdk hor
  cases u with
  | nil =>
   have hgk := drop_nil hdk
   simp only [go_sem, Nat.reduceEqDiff, Nat.reduceAdd, Nat.reduceLT, Nat.reduceLeDiff, reduceIte, g5, g15, g16, g17, g18, Ns_len, dec_ge hgk, wrap_n1 i (by omega)]
   refine Nx_of (i + 1, r) (by simp) ?_
   simp only [go_sem, Nat.reduceEqDiff, Nat.reduceAdd, Nat.reduceLT, Nat.reduceLeDiff, reduceIte, g5, g15, g16]
   refine ⟨trivial, trivial, trivial, trivial, hd2, ?_, trivial⟩
   rcases hor with h | h
   ·cases h
   ·exact h
  | cons y u =>
   obtain ⟨hk, hd3, hlk⟩ := drop_cons hdk
   cases hxy : ((x : Int) == (y : Int))
   case true => simp only [go_sem, Nat.reduceEqDiff, Nat.reduceAdd, Nat.reduceLT, Nat.reduceLeDiff, reduceIte, g5, g15, g16, g17, g18, Ns_len, dec_lt hlk, Ns_idx _ hi, Ns_idx _ hk, hxy, show ((0 : Int) == 0) = true from rfl, WB12, WVH_eq works_ok]
   case false =>
    simp only [go_sem, Nat.reduceEqDiff, Nat.reduceAdd, Nat.reduceLT, Nat.reduceLeDiff, reduceIte, g5, g15, g16, g17, g18, Ns_len, dec_lt hlk, Ns_idx _ hi, Ns_idx _ hk, hxy, wrap_n1 k (by omega)]
    refine Nx_of (k + 1, u) (by simp) ?_
    simp only [go_sem, Nat.reduceEqDiff, Nat.reduceAdd, Nat.reduceLT, Nat.reduceLeDiff, reduceIte, g5, g15, g16, g17]
    refine ⟨trivial, trivial, trivial, trivial, trivial, hd3, ?_, trivial⟩
    rcases hor with h | h
    ·rcases List.mem_cons.1 h with h | h
     ·subst h; simp at hxy
     ·exact .inl h
    ·exact .inr h
end Go.Ab.T
end
