/-
 A part of the proofs over this seat.
 (The texts KwK36 KwK37, one behind the other.)
-/
import Derived.Test.YtikfmbopfconkaaP15
set_option linter.unusedSimpArgs false
set_option linter.unusedVariables false
set_option linter.unusedSectionVars false
section
namespace Go.Ab.T
set_option maxRecDepth 8000
set_option maxHeartbeats 4000000
/-- As app0_ok, and what the new block is. -/
theorem app0_own {es : List AV} {q : Tk} {bl : List Blk} {tk : List (Nat × Nat)} {n0 sz bytes : Nat} (hn : n0 ≤ bl.length) (hs : ∀ e ∈ es, e.cells.length = sz) (hl : es.length * (bytes + 1) ≤ limit) :
  ∃ v ext, append0 ⟨bl, tk⟩ (.sl [] .tight) (.sl es q) sz bytes = some (v, ⟨bl ++ ext, tk⟩) ∧ OV n0 es sz v (bl ++ ext) ∧ (ext = [] ∨ (ext = [Blk.live es sz] ∧ v = .ref bl.length 0 es.length)) := by
 cases es with
 | nil =>
  refine ⟨.sl [] .tight, [], ?_, .inl ⟨rfl, rfl⟩, .inl rfl⟩
  simp [append0, Mem.elems]
 | cons e r =>
  have h1 : hdSz (e :: r) sz = true := by simp [hdSz, hs e (by simp)]
  refine ⟨.ref bl.length 0 (e :: r).length, [.live (e :: r) sz], ?_, .inr ⟨by simp, bl.length, hn, rfl, by simp⟩, .inr ⟨rfl, rfl⟩⟩
  simp only [append0, Mem.elems]
  rw [if_pos ⟨⟨hl, h1⟩, by simp⟩]; rfl
theorem ext_own {x : List Blk} {es : List AV} {sz n : Nat} {v : AV} (h : x = [] ∨ (x = [Blk.live es sz] ∧ v = .ref n 0 es.length)) (ho : es.all (ownly 8) = true) : ∀ b ∈ x, Blk.ownly b = true := by
 rcases h with rfl | ⟨rfl, _⟩
 ·intro b hb; cases hb
 ·intro b hb
  rw [List.mem_singleton] at hb
  subst hb; exact ho
theorem ints_own (l : List Int) : (l.map I64).all (ownly 8) = true := by
 rw [List.all_map]; exact List.all_eq_true.2 fun x _ => rfl
theorem deals_own (l : List Dl) : (l.map encD).all (ownly 8) = true := by
 rw [List.all_map]; exact List.all_eq_true.2 fun x _ => rfl
theorem OV.own {n0 : Nat} {es : List AV} {sz : Nat} {v : AV} {bl : List Blk} (h : OV n0 es sz v bl) (k : Nat) : ownly (k + 1) v = true := by
 rcases h with ⟨_, rfl⟩ | ⟨_, _, _, rfl, _⟩ <;> rfl
theorem Copy_own (w : Wk) (hs : Small w) (K : AV → Mem → Prop) (hK : ∀ v bl, WeekM 2 w v bl → bl.all Blk.ownly = true → K v ⟨bl, []⟩) : WR ft (.f 13) [encW w] .nil K := by
 rw [WR_f ft13 rfl]
 simp only [c13, r13]
 have s1 := hs.r
 have s2 := hs.f
 have s3 := hs.d
 obtain ⟨v1, x1, ha1, ho1, hx1⟩ := app0_own (es := w.rooms.map I64) (q := .unk) (bl := [.live [.agg [.int .i64 0, .sl [] .tight, .int .i64 0, .sl [] .tight, .sl [] .tight]] 5, .live [encW w] 5]) (tk := []) (n0 := 2) (sz := 1) (bytes := 8) (Nat.le_refl 2) (fun e he => by obtain ⟨z, _, rfl⟩ := List.mem_map.1 he; rfl) (by rw [List.length_map]; simp only [limit]; omega)
 have ha1' : append0 ⟨[.live [.agg [.int .i64 0, .sl [] .tight, .int .i64 0, .sl [] .tight, .sl [] .tight]] 5, .live [encW w] 5], []⟩ (.sl [] .tight) (encIs w.rooms) 1 8 = some (v1, ⟨[.live [.agg [.int .i64 0, .sl [] .tight, .int .i64 0, .sl [] .tight, .sl [] .tight]] 5, .live [encW w] 5] ++ x1, []⟩) := ha1
 obtain ⟨c11, c12, c13⟩ := ho1.cells
 obtain ⟨v2, x2, ha2, ho2', hx2⟩ := app0_own (es := w.films.map encF) (q := .unk) (bl := cpZ :: cpA w v1 (encFs w.films) (encDs w.deals) :: x1) (tk := []) (n0 := 2) (sz := 2) (bytes := 32) (by simp) (fun e he => by obtain ⟨z, _, rfl⟩ := List.mem_map.1 he; rfl) (by rw [List.length_map]; simp only [limit]; omega)
 have ha2' : append0 ⟨.live [.agg [.int .i64 0, .sl [] .tight, .int .i64 0, .sl [] .tight, .sl [] .tight]] 5 :: .live [.agg [I64 w.days, v1, I64 w.hours, encFs w.films, encDs w.deals]] 5 :: x1, []⟩ (.sl [] .tight) (encFs w.films) 2 32 = some (v2, ⟨.live [.agg [.int .i64 0, .sl [] .tight, .int .i64 0, .sl [] .tight, .sl [] .tight]] 5 :: .live [.agg [I64 w.days, v1, I64 w.hours, encFs w.films, encDs w.deals]] 5 :: (x1 ++ x2), []⟩) := ha2
 obtain ⟨c21, c22, c23⟩ := ho2'.cells
 have hp2 : ∀ (a b : Blk) (r : List Blk) (n : Nat), (a :: b :: r)[n + 2]? = r[n]? := fun a b r n => rfl
 have toA : ∀ {es : List AV} {sz : Nat} {v : AV} {a b a2 b2 : Blk} {r : List Blk}, OV 2 es sz v (a :: b :: r) → OV 2 es sz v (a2 :: b2 :: r) := fun {es sz v a b a2 b2 r} h => h.keep fun id hid hb => by
  obtain ⟨j, rfl⟩ : ∃ j, id = j + 2 := ⟨id - 2, by omega⟩
  exact hb
 have ho1' : OV 2 (w.rooms.map I64) 1 v1 (cpZ :: cpA w v1 v2 (encDs w.deals) :: (x1 ++ x2)) := toA (show OV 2 _ 1 v1 (cpZ :: .live [encW w] 5 :: (x1 ++ x2)) from by have := ho1.app x2; rw [List.append_assoc] at this; exact this)
 have ho2 : OV 2 (w.films.map encF) 2 v2 (cpZ :: cpA w v1 v2 (encDs w.deals) :: (x1 ++ x2)) := toA (show OV 2 _ 2 v2 (cpZ :: cpA w v1 (encFs w.films) (encDs w.deals) :: (x1 ++ x2)) from ho2')

 have wc1 : writeCells (encW w) 1 [v1] = some (.agg [I64 w.days, v1, I64 w.hours, encFs w.films, encDs w.deals]) := rfl
 simp only [go_sem, Nat.reduceEqDiff, Nat.reduceAdd, Nat.reduceLT, Nat.reduceLeDiff, reduceIte, WCells, WEta, FCells, FEta, DCells, DEta, cellsIs, solidIs, cellsFs, solidFs, cellsDs, solidDs, Bool.and_self, Is_len, Fs_len, Ds_len, true_and, snW, hotW, snD, hotD, snIs, hotIs, ha1', c11, c12, c13, wc1, ha2', c21, c22, c23]
 have hown0 : ∀ (i : Nat) (b : Blk), (x1 ++ x2)[i]? = some b → Blk.ownly b = true ∨ v2 = .ref (i + 2) 0 w.films.length := fun i b hb => by
  rcases Nat.lt_or_ge i x1.length with hlt | hge
  ·rw [List.getElem?_append_left hlt] at hb
   exact .inl (ext_own hx1 (ints_own _) b (List.mem_of_getElem? hb))
  ·rw [List.getElem?_append_right hge] at hb
   rcases hx2 with rfl | ⟨rfl, ev⟩
   ·simp at hb
   ·have h0 : i - x1.length = 0 := by
     have := (List.getElem?_eq_some_iff.1 hb).1
     simp at this; omega
    have hi : i = x1.length := by omega
    right
    rw [ev, List.length_map, hi]; rfl
 generalize x1 ++ x2 = bl0 at ho1' ho2 hown0 ⊢
 refine WL_inv (α := Nat × List Mv) (fun q e mm => e 1 = .pv (encW w) 0 ∧ e 2 = .ptr 0 0 0 ∧ e 3 = .ptr 1 0 0 ∧ e 4 = I64 q.1 ∧ w.films.drop q.1 = q.2 ∧ q.1 ≤ w.films.length ∧ ∃ bl dn, mm = ⟨cpZ :: cpA w v1 v2 (encDs w.deals) :: bl, []⟩ ∧ OV 2 (w.rooms.map I64) 1 v1 (cpZ :: cpA w v1 v2 (encDs w.deals) :: bl) ∧ OV 2 (dn ++ q.2.map encF) 2 v2 (cpZ :: cpA w v1 v2 (encDs w.deals) :: bl) ∧ FA (FilmAt 2 (cpZ :: cpA w v1 v2 (encDs w.deals) :: bl)) (w.films.take q.1) dn ∧ (∀ (i : Nat) (b : Blk), bl[i]? = some b → Blk.ownly b = true ∨ v2 = .ref (i + 2) 0 w.films.length) ∧ ∀ a ∈ dn, ownly 8 a = true) (fun q => q.2.length) (0, w.films) ?_ ?_
 ·simp only [go_sem, Nat.reduceEqDiff, Nat.reduceAdd, Nat.reduceLT, Nat.reduceLeDiff, reduceIte]
  exact ⟨trivial, trivial, trivial, rfl, trivial, Nat.zero_le _, bl0, [], rfl, ho1', ho2, trivial, hown0, fun a ha => by cases ha⟩
 rintro ⟨k, r⟩ e m ⟨g1, g2, g3, g4, hdr, hkl, bl, dn, rfl, hr, hf, hfa, hown, hdo⟩
 dsimp only at g4 hdr hkl hr hf hfa
 have hdn : dn.length = k := by have := hfa.len; simp at this; omega
 have hlen : lenAt ⟨cpZ :: cpA w v1 v2 (encDs w.deals) :: bl, []⟩ v2 = some (I64 w.films.length) := by
  have hl : (dn ++ r.map encF).length = w.films.length := by rw [← hdr]; simp [hdn]; omega
  rcases hf with ⟨h1, rfl⟩ | ⟨h1, id, h2, rfl, h3⟩
  ·rw [h1] at hl; rw [lenAt_sl]; simp only [← hl]
  ·rw [lenAt_ref, lsz_eq, h3, ← hl]; rfl
 cases r with
 | nil =>
  have hge := drop_nil hdr
  have hf' := hf
  simp only [List.map_nil, List.append_nil] at hf'
  have hke : k = w.films.length := by omega
  subst hke
  rw [List.take_length] at hfa
  obtain ⟨v3, x3, ha3, ho3, hx3⟩ := app0_own (es := w.deals.map encD) (q := .unk) (bl := cpZ :: cpA w v1 v2 (encDs w.deals) :: bl) (tk := []) (n0 := 2) (sz := 8) (bytes := 64) (by simp) (fun e he => by obtain ⟨z, _, rfl⟩ := List.mem_map.1 he; rfl) (by rw [List.length_map]; simp only [limit]; omega)
  have ha3' : append0 ⟨.live [.agg [.int .i64 0, .sl [] .tight, .int .i64 0, .sl [] .tight, .sl [] .tight]] 5 :: .live [.agg [I64 w.days, v1, I64 w.hours, v2, encDs w.deals]] 5 :: bl, []⟩ (.sl [] .tight) (encDs w.deals) 8 64 = some (v3, ⟨.live [.agg [.int .i64 0, .sl [] .tight, .int .i64 0, .sl [] .tight, .sl [] .tight]] 5 :: .live [.agg [I64 w.days, v1, I64 w.hours, v2, encDs w.deals]] 5 :: (bl ++ x3), []⟩) := ha3
  obtain ⟨c31, c32, c33⟩ := ho3.cells
  have hlen' : lenAt ⟨.live [.agg [.int .i64 0, .sl [] .tight, .int .i64 0, .sl [] .tight, .sl [] .tight]] 5 :: .live [.agg [I64 w.days, v1, I64 w.hours, v2, encDs w.deals]] 5 :: bl, []⟩ v2 = some (I64 w.films.length) := hlen
  simp only [go_sem, Nat.reduceEqDiff, Nat.reduceAdd, Nat.reduceLT, Nat.reduceLeDiff, reduceIte, g1, g2, g3, g4, WCells, WEta, FCells, FEta, DCells, DEta, cellsIs, solidIs, cellsFs, solidFs, cellsDs, solidDs, Bool.and_self, Is_len, Fs_len, Ds_len, true_and, snW, hotW, snD, hotD, snIs, hotIs, cpA, cpZ, hlen', dec_ge hge, ha3', c11, c12, c21, c22, c31, c32, c33]
  refine hK _ _ ⟨v1, v2, v3, rfl, toA (hr.app x3), ⟨dn, toA (hf'.app x3), FA.imp (fun x y ⟨c, h1, h2⟩ => ⟨c, h1, toA (h2.app x3)⟩) hfa⟩, toA ho3⟩ ?_
  have ha : ownly 8 (AV.agg [I64 w.days, v1, I64 w.hours, v2, v3]) = true := by
   show ([I64 w.days, v1, I64 w.hours, v2, v3]).all (ownly 7) = true
   rw [List.all_eq_true]
   intro x hx
   simp only [List.mem_cons, List.not_mem_nil, or_false] at hx
   rcases hx with rfl | rfl | rfl | rfl | rfl
   ·rfl
   ·exact hr.own 6
   ·rfl
   ·exact hf'.own 6
   ·exact ho3.own 6
  rw [List.all_eq_true]
  intro b hb
  rcases List.mem_cons.1 hb with rfl | hb
  ·show (ownly 8 _ && true) = true
   rw [ha]; rfl
  rcases List.mem_cons.1 hb with rfl | hb
  ·show (ownly 8 _ && true) = true
   rw [ha]; rfl
  rcases List.mem_append.1 hb with hb | hb
  ·obtain ⟨i, hi⟩ := List.getElem?_of_mem hb
   rcases hown i b hi with h | h
   ·exact h
   ·rcases hf' with ⟨_, h2⟩ | ⟨_, id, _, h2, h3⟩
    ·rw [h] at h2; cases h2
    ·rw [h] at h2
     injection h2 with e1 _ _
     subst e1
     have h4 : bl[i]? = some (.live dn 2) := h3
     rw [hi] at h4
     cases h4
     exact List.all_eq_true.2 hdo
  ·exact ext_own hx3 (deals_own _) b hb
 | cons x r =>
  obtain ⟨hk, hd2, hlt⟩ := drop_cons hdr
  have hxc := hs.c x (List.mem_of_getElem? hk)
  rcases hf with ⟨h1, _⟩ | ⟨h1, id, h2, hv2, h3⟩
  ·simp at h1
  obtain ⟨j, rfl⟩ : ∃ j, id = j + 2 := ⟨id - 2, by omega⟩
  have h3' : bl[j]? = some (.live (dn ++ encF x :: r.map encF) 2) := h3
  have hjl := (List.getElem?_eq_some_iff.1 h3').1
  obtain ⟨c, x3, ha3, ho3, hx3⟩ := app0_own (es := x.crowd.map I64) (q := .unk) (bl := cpZ :: cpA w v1 v2 (encDs w.deals) :: bl) (tk := []) (n0 := 2) (sz := 1) (bytes := 8) (by simp) (fun e he => by obtain ⟨z, _, rfl⟩ := List.mem_map.1 he; rfl) (by rw [List.length_map]; simp only [limit]; omega)
  have ha3' : append0 ⟨cpZ :: cpA w v1 v2 (encDs w.deals) :: bl, []⟩ (.sl [] .tight) (encIs x.crowd) 1 8 = some (c, ⟨cpZ :: cpA w v1 v2 (encDs w.deals) :: (bl ++ x3), []⟩) := ha3
  obtain ⟨c31, c32, c33⟩ := ho3.cells
  have hb4 : (bl ++ x3)[j]? = some (.live (dn ++ encF x :: r.map encF) 2) := by rw [List.getElem?_append_left hjl]; exact h3'
  have hix : idxAt ⟨cpZ :: cpA w v1 v2 (encDs w.deals) :: (bl ++ x3), []⟩ v2 (I64 k) 2 = some (.ptr (j + 2) k 0) := by
   rw [hv2, idxAt_ref, lsz_eq, hp2, hb4, if_pos ⟨⟨by omega, by simp [hdn]; omega⟩, rfl⟩]
   simp
  have hxk : (dn ++ encF x :: r.map encF)[k]? = some (encF x) := by rw [← hdn]; simp
  have had : addrAt ⟨cpZ :: cpA w v1 v2 (encDs w.deals) :: (bl ++ x3), []⟩ (.ptr (j + 2) k 0) 1 = some (.ptr (j + 2) k 1) := by
   rw [addrAt_ptr, lsz_eq, hp2, hb4]; rfl
  have hst : storeAt ⟨cpZ :: cpA w v1 v2 (encDs w.deals) :: (bl ++ x3), []⟩ (.ptr (j + 2) k 1) c 1 = some ⟨cpZ :: cpA w v1 v2 (encDs w.deals) :: (bl ++ x3).set j (.live (dn ++ .agg [I64 x.price, c] :: r.map encF) 2), []⟩ := by
   simp only [storeAt, hp2, hb4, hxk, c31, AV.solids, List.length_singleton, List.all_cons, List.all_nil, c32, Bool.and_self, and_self, if_true]
   rw [show writeCells (encF x) 1 [c] = some (.agg [I64 x.price, c]) from rfl]
   simp only [Option.map_some, List.set_cons_succ]
   rw [set_at _ _ _ _ hdn]
  have hll : lenAt ⟨cpZ :: cpA w v1 v2 (encDs w.deals) :: bl, []⟩ v2 = some (I64 w.films.length) := hlen
  have hA : cpA w v1 v2 (encDs w.deals) = .live [.agg [I64 w.days, v1, I64 w.hours, v2, encDs w.deals]] 5 := rfl
  have l3 : ∀ b : List Blk, loadAt ⟨cpZ :: cpA w v1 v2 (encDs w.deals) :: b, []⟩ (.ptr 1 0 3) none = some v2 := fun b => rfl
  have a3 : ∀ b : List Blk, addrAt ⟨cpZ :: cpA w v1 v2 (encDs w.deals) :: b, []⟩ (.ptr 1 0 0) 3 = some (.ptr 1 0 3) := fun b => rfl
  simp only [go_sem, Nat.reduceEqDiff, Nat.reduceAdd, Nat.reduceLT, Nat.reduceLeDiff, reduceIte, g1, g2, g3, g4, WCells, WEta, FCells, FEta, DCells, DEta, cellsIs, solidIs, cellsFs, solidFs, cellsDs, solidDs, Bool.and_self, Is_len, Fs_len, Ds_len, true_and, snW, hotW, snD, hotD, snIs, hotIs, a3, l3, hll, dec_lt hlt, Fs_idx _ hk, Nat.zero_add, ha3', hix, had, hst, c31, c32, c33, wrap_n1 k (by omega)]
  refine Nx_of (k + 1, r) (by simp) ?_
  simp only [go_sem, Nat.reduceEqDiff, Nat.reduceAdd, Nat.reduceLT, Nat.reduceLeDiff, reduceIte, g1, g2, g3]
  have nz : (bl ++ x3)[j]? = some (.live (dn ++ encF x :: r.map encF) 2) := hb4
  have k1 : ∀ {es : List AV} {v : AV}, OV 2 es 1 v (cpZ :: cpA w v1 v2 (encDs w.deals) :: (bl ++ x3)) → OV 2 es 1 v (cpZ :: cpA w v1 v2 (encDs w.deals) :: (bl ++ x3).set j (.live (dn ++ .agg [I64 x.price, c] :: r.map encF) 2)) := fun {es v} h => by
   have := h.set (id := j + 2) (b := .live (dn ++ .agg [I64 x.price, c] :: r.map encF) 2) (.inr ⟨by rw [hp2]; exact nz, by decide⟩)
   exact this
  refine ⟨trivial, trivial, trivial, trivial, hd2, by omega, _, dn ++ [.agg [I64 x.price, c]], rfl, k1 (hr.app x3), .inr ⟨by simp, j + 2, h2, by rw [hv2]; simp, ?_⟩, ?_, fun i b hi => ?_, fun a ha => ?_⟩
  ·rw [hp2, List.getElem?_set_self (by rw [List.length_append]; omega)]
   simp
  ·rw [List.take_add_one, hk]
   exact FA.snoc ⟨c, rfl, k1 ho3⟩ (FA.imp (fun x y ⟨c, h1, h2⟩ => ⟨c, h1, k1 (h2.app x3)⟩) hfa)
  ·rcases Nat.decEq i j with hij | hij
   ·rw [List.getElem?_set_ne (fun e => hij e.symm)] at hi
    rcases Nat.lt_or_ge i bl.length with hl | hg
    ·rw [List.getElem?_append_left hl] at hi
     exact hown i b hi
    ·rw [List.getElem?_append_right hg] at hi
     exact .inl (ext_own hx3 (ints_own _) b (List.mem_of_getElem? hi))
   ·subst hij
    right
    rw [hv2]
    congr 1
    have : (w.films.drop k).length = (x :: r).length := congrArg List.length hdr
    simp [hdn] at this ⊢
    omega
  ·rcases List.mem_append.1 ha with ha | ha
   ·exact hdo a ha
   ·rw [List.mem_singleton] at ha
    subst ha
    show ([I64 x.price, c]).all (ownly 7) = true
    simp only [List.all_cons, List.all_nil, ho3.own 6, Bool.and_true]
    rfl
theorem ownly_shift (db dt : Nat) : ∀ (k q : Nat) (v : AV), ownly k v = true → k ≤ q → ownly k (Ab.shift db dt q v) = true
 | 0, _, _, h, _ => by cases h
 | k + 1, 0, _, _, h => by omega
 | k + 1, q + 1, v, h, hk => by
  have key : ∀ cs : List AV, cs.all (ownly k) = true → (cs.map (Ab.shift db dt q)).all (ownly k) = true := fun cs h => by
   rw [List.all_map, List.all_eq_true]
   rw [List.all_eq_true] at h
   exact fun x hx => ownly_shift db dt k q x (h x hx) (by omega)
  cases v with
  | agg cs => exact key cs h
  | tup cs => exact key cs h
  | sl es tk => cases es with
   | nil => cases tk <;> first | rfl | exact h
   | cons _ _ => exact absurd h (by simp [ownly])
  | _ => first | exact h | exact absurd h (by simp [ownly])
theorem shiftB_own (db dt : Nat) {l : List Blk} (h : l.all Blk.ownly = true) : (l.map (shiftB db dt 9)).all Blk.ownly = true := by
 rw [List.all_map, List.all_eq_true]
 rw [List.all_eq_true] at h
 intro b hb
 have := h b hb
 cases b with
 | live es sz =>
  show (es.map (Ab.shift db dt 9)).all (ownly 8) = true
  have h2 : es.all (ownly 8) = true := this
  rw [List.all_map, List.all_eq_true]
  rw [List.all_eq_true] at h2
  exact fun x hx => ownly_shift db dt 8 9 x (h2 x hx) (by omega)
 | _ => rfl
/-- A copy in shared memory, all whose new blocks are its own. -/
theorem Copy_oo (w : Wk) (hs : Small w) (e : Nat → AV) (bl : List Blk) (tk : List (Nat × Nat)) (K : AV → St → Prop)
  (hK : ∀ v1 v2 v3 X, WeekM (bl.length + 2) w (.agg [I64 w.days, v1, I64 w.hours, v2, v3]) (bl ++ X) → X.all Blk.ownly = true → K (.agg [I64 w.days, v1, I64 w.hours, v2, v3]) ⟨e, ⟨bl ++ X, tk⟩⟩) : WB ft 13 [encW w] ⟨e, ⟨bl, tk⟩⟩ K := by
 rw [WB13]
 simp only [List.map_cons, List.map_nil, mem_mk, blks_mk, toks_mk, snW, dep_eq, List.all_cons, List.all_nil]
 refine Copy_own w hs _ fun v bl2 h ho => ?_
 have h2 := h.shift (nb := bl.length) (nt := tk.length) (b0 := bl) rfl
 obtain ⟨v1, v2, v3, he, _⟩ := h2
 have h2 := h.shift (nb := bl.length) (nt := tk.length) (b0 := bl) rfl
 refine ⟨by rw [hotW]; rfl, ?_⟩
 rw [he] at h2 ⊢
 have := hK v1 v2 v3 _ h2 (shiftB_own _ _ ho)
 simpa [joinMem, setMem_mk] using this
/-- As appOwn_ok, and that all blocks stay their own. -/
theorem appOwn_own {es ys : List AV} {q : Tk} {v : AV} {bl : List Blk} {tk : List (Nat × Nat)} {n0 T sz bytes : Nat} (h : OV n0 es sz v bl) (hn : n0 ≤ bl.length) (hes : ∀ e ∈ es, e.cells.length = sz) (hs : ∀ e ∈ ys, e.cells.length = sz) (hl : (es.length + ys.length) * (bytes + 1) ≤ limit) (hw : bl.all Blk.ownly = true) (hy : (es ++ ys).all (ownly 8) = true) :
  ∃ v' bl', appendAt ⟨bl, tk⟩ true v (.sl ys q) T sz bytes = some (v', ⟨bl', tk⟩) ∧ OV n0 (es ++ ys) sz v' bl' ∧ n0 ≤ bl'.length ∧ (∀ i, i < n0 → bl'[i]? = bl[i]?) ∧ bl'.all Blk.ownly = true := by
 obtain ⟨v', bl', h1, h2, h3, h4⟩ := appOwn_ok (q := q) (T := T) (tk := tk) h hn hes hs hl
 refine ⟨v', bl', h1, h2, h3, h4, ?_⟩
 rw [List.all_append, Bool.and_eq_true] at hy
 have hdz : hdSz ys sz = true := by
  cases ys with
  | nil => rfl
  | cons y r => simp [hdSz, hs y (by simp)]
 have hset : ∀ (id : Nat) (b : Blk), Blk.ownly b = true → (bl.set id b).all Blk.ownly = true := fun id b hb => by
  rw [List.all_eq_true] at hw ⊢
  intro x hx
  rcases List.mem_or_eq_of_mem_set hx with hx | rfl
  ·exact hw x hx
  ·exact hb
 have hsn : ∀ (l : List Blk) (b : Blk), l.all Blk.ownly = true → Blk.ownly b = true → (l ++ [b]).all Blk.ownly = true := fun l b h1 h2 => by
  rw [List.all_append, h1]; simp [h2]
 simp only [appendAt, Mem.elems, hdz] at h1
 rw [if_neg (by simp)] at h1
 rcases h with ⟨rfl, rfl⟩ | ⟨hne, id, hid, rfl, hb⟩
 ·simp only [] at h1
  split at h1
  ·simp only [if_true] at h1
   split at h1
   ·cases h1; exact hw
   ·cases h1; exact hsn _ _ hw hy.2
  ·cases h1
 ·simp only [hb] at h1
  rw [if_neg (by simp)] at h1
  split at h1
  ·cases h1
   refine hset _ _ ?_
   show (List.take es.length es ++ ys ++ List.drop (es.length + ys.length) es).all (ownly 8) = true
   rw [List.take_length, List.drop_eq_nil_of_le (by omega), List.append_nil, List.all_append, hy.1, hy.2]; rfl
  ·split at h1
   ·cases h1
    refine hsn _ _ (hset _ _ rfl) ?_
    show (es ++ ys).all (ownly 8) = true
    rw [List.all_append, hy.1, hy.2]; rfl
   ·cases h1
end Go.Ab.T
end

section
namespace Go.Ab.T
set_option maxRecDepth 8000
set_option maxHeartbeats 4000000
theorem OV.move {n0 n1 : Nat} {es : List AV} {sz : Nat} {v : AV} {bl bl' : List Blk} (h : OV n0 es sz v bl) (hn : n1 ≤ n0) (hk : ∀ id, n0 ≤ id → bl[id]? = some (Blk.live es sz) → bl'[id]? = some (Blk.live es sz)) : OV n1 es sz v bl' := by
 rcases h with h | ⟨h1, id, h2, h3, h4⟩
 ·exact .inl h
 ·exact .inr ⟨h1, id, by omega, h3, hk id h2 h4⟩
theorem FilmsM.move {n0 n1 : Nat} {l : List Mv} {v : AV} {bl bl' : List Blk} (h : FilmsM n0 l v bl) (hn : n1 ≤ n0) (hk : ∀ (id : Nat) (es : List AV) (sz : Nat), n0 ≤ id → bl[id]? = some (Blk.live es sz) → bl'[id]? = some (Blk.live es sz)) : FilmsM n1 l v bl' := by
 obtain ⟨fs, h1, h2⟩ := h
 exact ⟨fs, h1.move hn fun id hi hb => hk id _ _ hi hb, FA.imp (fun x y ⟨c, e, hc⟩ => ⟨c, e, hc.move hn fun id hi hb => hk id _ _ hi hb⟩) h2⟩
theorem FilmsM.own {n0 : Nat} {l : List Mv} {v : AV} {bl : List Blk} (h : FilmsM n0 l v bl) (k : Nat) : ownly (k + 1) v = true := by
 obtain ⟨fs, h1, _⟩ := h; exact h1.own k
theorem week_own {a b : Int} {v1 v2 v3 : AV} {k : Nat} (h1 : ownly (k + 1) v1 = true) (h2 : ownly (k + 1) v2 = true) (h3 : ownly (k + 1) v3 = true) : ownly (k + 2) (.agg [I64 a, v1, I64 b, v2, v3]) = true := by
 show ([I64 a, v1, I64 b, v2, v3]).all (ownly (k + 1)) = true
 simp only [List.all_cons, List.all_nil, h1, h2, h3, Bool.and_true]
 rfl
theorem set_own {l : List Blk} (h : l.all Blk.ownly = true) (i : Nat) {b : Blk} (hb : Blk.ownly b = true) : (l.set i b).all Blk.ownly = true := by
 rw [List.all_eq_true] at h ⊢
 intro x hx
 rcases List.mem_or_eq_of_mem_set hx with hx | rfl
 ·exact h x hx
 ·exact hb
theorem WeekM.own {n0 : Nat} {w : Wk} {v : AV} {bl : List Blk} (h : WeekM n0 w v bl) (k : Nat) : ownly (k + 2) v = true := by
 obtain ⟨v1, v2, v3, rfl, h1, h2, h3⟩ := h
 exact week_own (h1.own k) (FilmsM.own h2 k) (h3.own k)
/-- The deals of some numbers. -/
def selW (w : Wk) (l : List Nat) : List Dl := l.filterMap fun n => w.deals[n]?
theorem selW_snoc {w : Wk} {l : List Nat} {k n : Nat} {d : Dl} (hk : l[k]? = some n) (hd : w.deals[n]? = some d) : selW w (l.take (k + 1)) = selW w (l.take k) ++ [d] := by
 unfold selW
 rw [List.take_add_one, hk, List.filterMap_append]
 simp [hd]
theorem selW_len (w : Wk) (l : List Nat) : (selW w l).length ≤ l.length := List.length_filterMap_le _ _
theorem appendAt_elems {m : Mem} {own : Bool} {s x y : AV} {T sz bytes : Nat} (h : m.elems x = m.elems y) : appendAt m own s x T sz bytes = appendAt m own s y T sz bytes := by
 unfold appendAt; rw [h]
theorem Only_run (w : Wk) (hs : Small w) (l : List Nat) (hl : l.length ≤ 1000) (hn : ∀ n ∈ l, n < w.deals.length) (K : AV → Mem → Prop) (hK : ∀ v bl, WeekM 1 (dealsW w (selW w l)) v bl → bl.all Blk.ownly = true → K v ⟨bl, []⟩) : WR ft (.f 31) [encW w, encNs l] .nil K := by
 rw [WR_f ft31 rfl]
 simp only [c31, r31]
 have s3 := hs.d
 simp only [go_sem, Nat.reduceEqDiff, Nat.reduceAdd, Nat.reduceLT, Nat.reduceLeDiff, reduceIte, WCells, WEta, FCells, FEta, DCells, DEta, cellsIs, solidIs, cellsFs, solidFs, cellsDs, solidDs, Bool.and_self, Is_len, Fs_len, Ds_len, true_and, snW, hotW, snD, hotD, snIs, hotIs]
 refine Copy_oo w hs _ _ _ _ fun v1 v2 v3 X hX hXo => ?_
 obtain ⟨p1, p2, p3⟩ := hX.parts
 obtain ⟨a1, a2, a3⟩ := p1.cells
 obtain ⟨b1, b2, b3⟩ := p2.cells
 obtain ⟨d1, d2, d3⟩ := p3.cells
 have hg : ∀ (z b : Blk), (z :: (X ++ [b]))[X.length + 1]? = some b := fun z b => by rw [List.getElem?_cons_succ]; simp
 have hst : ∀ (z b b' : Blk), (z :: (X ++ [b])).set (X.length + 1) b' = z :: (X ++ [b']) := fun z b b' => by rw [List.set_cons_succ]; simp
 simp only [go_sem, Nat.reduceEqDiff, Nat.reduceAdd, Nat.reduceLT, Nat.reduceLeDiff, reduceIte, a1, a2, a3, b1, b2, b3, d1, d2, d3, hg, hst]
 refine WL_inv (α := Nat × List Nat) (fun q e mm => e 1 = encNs l ∧ e 2 = .pv (encW w) 0 ∧ e 4 = .ptr 0 0 0 ∧ e 5 = .ptr (X.length + 1) 0 0 ∧ e 6 = I64 q.1 ∧ l.drop q.1 = q.2 ∧ q.1 ≤ l.length ∧ ∃ BL u, mm = ⟨BL, []⟩ ∧ (∀ i, i < X.length + 1 → BL[i]? = ((Blk.live [.agg [.int .i64 0, .sl [] .tight, .int .i64 0, .sl [] .tight, .sl [] .tight]] 5) :: X)[i]?) ∧ BL[X.length + 1]? = some (.live [.agg [I64 w.days, v1, I64 w.hours, v2, u]] 5) ∧ OV (X.length + 2) ((selW w (l.take q.1)).map encD) 8 u BL ∧ X.length + 2 ≤ BL.length ∧ BL.all Blk.ownly = true) (fun q => q.2.length) (0, l) ?_ ?_
 ·simp only [go_sem, Nat.reduceEqDiff, Nat.reduceAdd, Nat.reduceLT, Nat.reduceLeDiff, reduceIte]
  refine ⟨trivial, trivial, trivial, ?_, rfl, trivial, Nat.zero_le _, _, .sl [] .tight, rfl, fun i hi => ?_, hg _ _, .inl ⟨rfl, rfl⟩, by simp, ?_⟩
  ·first | rfl | trivial
  ·cases i with
   | zero => rfl
   | succ i => rw [List.getElem?_cons_succ, List.getElem?_cons_succ, List.getElem?_append_left (by omega)]
  ·rw [List.all_cons, List.all_append, hXo]
   have := week_own (a := w.days) (b := w.hours) (k := 6) (p1.own 6) (FilmsM.own p2 6) (show ownly 7 (.sl [] .tight) = true from rfl)
   simp only [List.all_cons, List.all_nil, Bool.true_and, Bool.and_true]
   rw [show Blk.ownly (Blk.live [AV.agg [I64 w.days, v1, I64 w.hours, v2, .sl [] .tight]] 5) = (ownly 8 (AV.agg [I64 w.days, v1, I64 w.hours, v2, .sl [] .tight]) && true) from rfl, this]; rfl
 rintro ⟨k, r⟩ e m ⟨g1, g2, g4, g5, g6, hdr, hkl, BL, u, rfl, hkp, hB, hD, hlen, hown⟩
 dsimp only at g6 hdr hkl hD
 obtain ⟨u1, u2, u3⟩ := hD.cells
 have hB0 : BL[0]? = some (Blk.live [.agg [.int .i64 0, .sl [] .tight, .int .i64 0, .sl [] .tight, .sl [] .tight]] 5) := hkp 0 (by omega)
 cases r with
 | nil =>
  have hge := drop_nil hdr
  have hke : l.take k = l := List.take_of_length_le hge
  rw [hke] at hD
  have hb0 : ∀ b : Blk, (BL.set 0 b)[0]? = some b := fun b => List.getElem?_set_self (by omega)
  simp only [go_sem, Nat.reduceEqDiff, Nat.reduceAdd, Nat.reduceLT, Nat.reduceLeDiff, reduceIte, g1, g2, g4, g5, g6, Ns_len, dec_ge hge, a1, a2, a3, b1, b2, b3, u1, u2, u3, hB, hB0, hb0]
  have mv : ∀ (b : Blk) (id : Nat) (es : List AV) (sz : Nat), 3 ≤ id → ((Blk.live [.agg [.int .i64 0, .sl [] .tight, .int .i64 0, .sl [] .tight, .sl [] .tight]] 5) :: X)[id]? = some (.live es sz) → (BL.set 0 b)[id]? = some (.live es sz) := fun b id es sz hi hb => by
   have hlt := (List.getElem?_eq_some_iff.1 hb).1
   rw [List.getElem?_set_ne (by omega), hkp id (by simpa using hlt)]; exact hb
  refine hK _ _ ⟨v1, v2, u, rfl, p1.move (by omega) fun id hi hb => mv _ id _ _ hi hb, FilmsM.move p2 (by omega) fun id es sz hi hb => mv _ id es sz hi hb, hD.move (by omega) fun id hi hb => ?_⟩ (set_own hown 0 ?_)
  ·rw [List.getElem?_set_ne (by omega)]; exact hb
  ·show (ownly 8 _ && true) = true
   rw [week_own (p1.own 6) (FilmsM.own p2 6) (hD.own 6)]; rfl
 | cons n r =>
  obtain ⟨hk, hd2, hlt⟩ := drop_cons hdr
  have hnl := hn n (List.mem_of_getElem? hk)
  obtain ⟨d, hd⟩ : ∃ d, w.deals[n]? = some d := ⟨_, List.getElem?_eq_getElem hnl⟩
  have hsl := selW_len w (l.take k)
  have hel : (⟨BL ++ [Blk.live [encD d] 8], []⟩ : Mem).elems (.ref BL.length 0 1) = (⟨BL ++ [Blk.live [encD d] 8], []⟩ : Mem).elems (.sl [encD d] .tight) := by
   rw [elems_ref]
   simp only [get_last, elBlk_live, List.length_singleton, Nat.zero_add, Nat.le_refl, if_true, List.drop_zero]
   rfl
  obtain ⟨v', bl', ha, ho, hl2, hk2, hown2⟩ := appOwn_own (q := .tight) (T := 47) (bytes := 64) (tk := []) (ys := [encD d]) (hD.app [.live [encD d] 8]) (by rw [List.length_append]; omega) (fun e he => by obtain ⟨z, _, rfl⟩ := List.mem_map.1 he; rfl) (fun e he => by rw [List.mem_singleton] at he; subst he; rfl) (by rw [List.length_map, List.length_singleton]; rw [List.length_take] at hsl; simp only [limit]; omega) (by rw [List.all_append, hown]; rfl) (by rw [List.all_append, deals_own]; rfl)
  rw [← appendAt_elems hel] at ha
  obtain ⟨c1, c2, c3⟩ := ho.cells
  have hB2 : bl'[X.length + 1]? = some (.live [.agg [I64 w.days, v1, I64 w.hours, v2, u]] 5) := by rw [hk2 _ (by omega), List.getElem?_append_left (by omega)]; exact hB
  simp only [go_sem, Nat.reduceEqDiff, Nat.reduceAdd, Nat.reduceLT, Nat.reduceLeDiff, reduceIte, g1, g2, g4, g5, g6, Ns_len, dec_lt hlt, Ns_idx _ hk, Ds_idx _ hd, WCells, WEta, FCells, FEta, DCells, DEta, cellsIs, solidIs, cellsFs, solidFs, cellsDs, solidDs, Bool.and_self, Is_len, Fs_len, Ds_len, true_and, snW, hotW, snD, hotD, snIs, hotIs, a1, a2, a3, b1, b2, b3, u1, u2, u3, c1, c2, c3, hB, hB2, ha, wrap_n1 k (by omega)]
  refine Nx_of (k + 1, r) (by simp) ?_
  simp only [go_sem, Nat.reduceEqDiff, Nat.reduceAdd, Nat.reduceLT, Nat.reduceLeDiff, reduceIte, g1, g2, g4, g5]
  refine ⟨trivial, trivial, trivial, trivial, trivial, hd2, by omega, _, v', rfl, fun i hi => ?_, List.getElem?_set_self (by omega), ?_, by rw [List.length_set]; exact hl2, set_own hown2 _ ?_⟩
  ·rw [List.getElem?_set_ne (by omega), hk2 i (by omega), List.getElem?_append_left (by omega)]; exact hkp i hi
  ·rw [selW_snoc hk hd, List.map_append]
   exact ho.set (es2 := []) (sz2 := 0) (.inl (by omega))
  ·show (ownly 8 _ && true) = true
   rw [week_own (p1.own 6) (FilmsM.own p2 6) (ho.own 6)]; rfl
/-- The same in shared memory: the argument may lead to memory. -/
theorem Only_o (w : Wk) (hs : Small w) (l : List Nat) (hl : l.length ≤ 1000) (hn : ∀ n ∈ l, n < w.deals.length) (as : List AV) (e : Nat → AV) (bl : List Blk) (tk : List (Nat × Nat)) (K : AV → St → Prop) (has : as.map (Ab.snap ⟨bl, tk⟩ dep) = [encW w, encNs l])
  (hK : ∀ v1 v2 v3 X, WeekM (bl.length + 1) (dealsW w (selW w l)) (.agg [I64 w.days, v1, I64 w.hours, v2, v3]) (bl ++ X) → K (.agg [I64 w.days, v1, I64 w.hours, v2, v3]) ⟨e, ⟨bl ++ X, tk⟩⟩) : WB ft 31 as ⟨e, ⟨bl, tk⟩⟩ K := by
 rw [WB31]
 simp only [mem_mk, blks_mk, toks_mk, has]
 refine Only_run w hs l hl hn _ fun v bl2 h ho => ?_
 have h2 := h.shift (nb := bl.length) (nt := tk.length) (b0 := bl) rfl
 obtain ⟨v1, v2, v3, he, _⟩ := h2
 have h2 := h.shift (nb := bl.length) (nt := tk.length) (b0 := bl) rfl
 refine ⟨by rw [dep_eq, h.own 7, ho, Bool.and_self, Bool.or_true], ?_⟩
 rw [dep_eq]
 have he' : Ab.shift bl.length tk.length 9 v = .agg [I64 w.days, v1, I64 w.hours, v2, v3] := he
 rw [he'] at h2 ⊢
 have := hK v1 v2 v3 _ h2
 simpa [joinMem, setMem_mk] using this
end Go.Ab.T
end
