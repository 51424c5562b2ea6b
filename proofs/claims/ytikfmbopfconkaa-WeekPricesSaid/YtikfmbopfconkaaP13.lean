/-
  A part of the proofs over this seat.
  (The texts KwK32 KwK33 KwK34, one behind the other.)
-/
import Derived.Test.YtikfmbopfconkaaP12
set_option linter.unusedSimpArgs false
set_option linter.unusedVariables false
set_option linter.unusedSectionVars false
section
namespace Go.Ab.T
set_option maxRecDepth 8000
set_option maxHeartbeats 4000000
theorem OV.shift {n0 nb nt : Nat} {es es' : List AV} {sz : Nat} {v : AV} {bl b0 : List Blk} (h : OV n0 es sz v bl) (hes : es.map (Ab.shift nb nt 9) = es') (hb : b0.length = nb) (k : Nat) : OV (nb + n0) es' sz (Ab.shift nb nt (k + 1) v) (b0 ++ bl.map (shiftB nb nt 9)) := by
  rcases h with ⟨rfl, rfl⟩ | ⟨h1, id, h2, rfl, h3⟩
  · exact .inl ⟨hes.symm, rfl⟩
  · refine .inr ⟨fun h => h1 (by rw [h] at hes; exact List.map_eq_nil_iff.1 hes), nb + id, by omega, ?_, ?_⟩
    · show AV.ref (nb + id) 0 es.length = _
      rw [← hes, List.length_map]
    · rw [List.getElem?_append_right (by omega), show nb + id - b0.length = id by omega, List.getElem?_map, h3, ← hes]; rfl
theorem WeekM.shift {n0 nb nt : Nat} {w : Wk} {v : AV} {bl b0 : List Blk} (h : WeekM n0 w v bl) (hb : b0.length = nb) : WeekM (nb + n0) w (Ab.shift nb nt 9 v) (b0 ++ bl.map (shiftB nb nt 9)) := by
  obtain ⟨v1, v2, v3, rfl, h1, ⟨fs, h2, hfs⟩, h3⟩ := h
  refine ⟨Ab.shift nb nt 8 v1, Ab.shift nb nt 8 v2, Ab.shift nb nt 8 v3, rfl, h1.shift ?_ hb 7, ⟨fs.map (Ab.shift nb nt 9), h2.shift rfl hb 7, ?_⟩, h3.shift ?_ hb 7⟩
  · rw [List.map_map]; rfl
  · have key : ∀ (l : List Mv) (fs : List AV), FA (FilmAt n0 bl) l fs → FA (FilmAt (nb + n0) (b0 ++ bl.map (shiftB nb nt 9))) l (fs.map (Ab.shift nb nt 9)) := by
      intro l
      induction l with
      | nil => intro fs h; cases fs with
        | nil => trivial
        | cons _ _ => exact h.elim
      | cons m l ih => intro fs h; cases fs with
        | nil => exact h.elim
        | cons a fs =>
          obtain ⟨⟨c, rfl, hc⟩, h2⟩ := h
          exact ⟨⟨Ab.shift nb nt 8 c, rfl, hc.shift (by rw [List.map_map]; rfl) hb 7⟩, ih fs h2⟩
    exact key _ _ hfs
  · rw [List.map_map]; rfl
/-- A copy that shares the memory. -/
theorem Copy_o (w : Wk) (hs : Small w) (e : Nat → AV) (bl : List Blk) (tk : List (Nat × Nat)) (K : AV → St → Prop)
    (hK : ∀ v1 v2 v3 X, WeekM (bl.length + 2) w (.agg [I64 w.days, v1, I64 w.hours, v2, v3]) (bl ++ X) → K (.agg [I64 w.days, v1, I64 w.hours, v2, v3]) ⟨e, ⟨bl ++ X, tk⟩⟩) : WB ft 13 [encW w] ⟨e, ⟨bl, tk⟩⟩ K := by
  rw [WB13]
  simp only [List.map_cons, List.map_nil, mem_mk, blks_mk, toks_mk, snW, dep_eq, List.all_cons, List.all_nil]
  refine Copy_run w hs _ fun v bl2 h => ?_
  have h2 := h.shift (nb := bl.length) (nt := tk.length) (b0 := bl) rfl
  obtain ⟨v1, v2, v3, he, _⟩ := h2
  have h2 := h.shift (nb := bl.length) (nt := tk.length) (b0 := bl) rfl
  refine ⟨by rw [hotW]; rfl, ?_⟩
  rw [he] at h2 ⊢
  have := hK v1 v2 v3 _ h2
  simpa [joinMem, setMem_mk] using this
theorem WeekM.app {n0 : Nat} {w : Wk} {v : AV} {bl : List Blk} (h : WeekM n0 w v bl) (x : List Blk) : WeekM n0 w v (bl ++ x) := by
  obtain ⟨v1, v2, v3, rfl, h1, ⟨fs, h2, hfs⟩, h3⟩ := h
  exact ⟨v1, v2, v3, rfl, h1.app x, ⟨fs, h2.app x, FA.imp (fun m a ⟨c, e, hc⟩ => ⟨c, e, hc.app x⟩) hfs⟩, h3.app x⟩
/-- The parts of a week in memory. -/
theorem WeekM.parts {n0 : Nat} {w : Wk} {v1 v2 v3 : AV} {bl : List Blk} (h : WeekM n0 w (.agg [I64 w.days, v1, I64 w.hours, v2, v3]) bl) : OV n0 (w.rooms.map I64) 1 v1 bl ∧ FilmsM n0 w.films v2 bl ∧ OV n0 (w.deals.map encD) 8 v3 bl := by
  obtain ⟨u1, u2, u3, he, h1, h2, h3⟩ := h
  cases he
  exact ⟨h1, h2, h3⟩
theorem OV.snapI {n0 : Nat} {l : List Int} {v : AV} {bl : List Blk} (h : OV n0 (l.map I64) 1 v bl) (tk : List (Nat × Nat)) (q : Nat) : Ab.snap ⟨bl, tk⟩ (q + 2) v = encIs l := by
  rw [h.snap, List.map_map, show Ab.snap ⟨bl, tk⟩ (q + 1) ∘ I64 = I64 from funext fun _ => rfl]; rfl
theorem OV.snapD {n0 : Nat} {l : List Dl} {v : AV} {bl : List Blk} (h : OV n0 (l.map encD) 8 v bl) (tk : List (Nat × Nat)) (q : Nat) : Ab.snap ⟨bl, tk⟩ (q + 3) v = encDs l := by
  rw [h.snap, List.map_map, show Ab.snap ⟨bl, tk⟩ (q + 2) ∘ encD = encD from funext fun d => snD _ _ d]; rfl
theorem FilmsM.snap {n0 : Nat} {l : List Mv} {v : AV} {bl : List Blk} (h : FilmsM n0 l v bl) (tk : List (Nat × Nat)) (q : Nat) : Ab.snap ⟨bl, tk⟩ (q + 4) v = encFs l := by
  obtain ⟨fs, h2, hfs⟩ := h
  rw [h2.snap, show fs.map (Ab.snap ⟨bl, tk⟩ (q + 3)) = l.map encF from FA.map (f := Ab.snap ⟨bl, tk⟩ (q + 3)) (g := encF) (fun x y hxy => FilmAt.snap hxy tk q) hfs]; rfl
theorem FilmsM.cells {n0 : Nat} {l : List Mv} {v : AV} {bl : List Blk} (h : FilmsM n0 l v bl) : v.cells = [v] ∧ v.solid = true ∧ v.isAgg = false := by
  obtain ⟨fs, h2, _⟩ := h; exact h2.cells
theorem FilmsM.len {n0 : Nat} {l : List Mv} {v : AV} {bl : List Blk} (h : FilmsM n0 l v bl) (tk : List (Nat × Nat)) : lenAt ⟨bl, tk⟩ v = some (I64 l.length) := by
  obtain ⟨fs, h2, hfs⟩ := h
  have := hfs.len
  rcases h2 with ⟨rfl, rfl⟩ | ⟨_, id, _, rfl, hb⟩
  · rw [lenAt_sl, this]
  · rw [lenAt_ref, lsz_eq, hb, this]; rfl
/-- A film of a week in memory: its place, and what a new price leaves. -/
theorem FilmsM.price {n0 : Nat} {l : List Mv} {v : AV} {bl : List Blk} (h : FilmsM n0 l v bl) {k : Nat} {m : Mv} (hm : l[k]? = some m) (tk : List (Nat × Nat)) (x : Int) : ∃ id fs c, n0 ≤ id ∧ idxAt ⟨bl, tk⟩ v (I64 k) 2 = some (.ptr id k 0) ∧ bl[id]? = some (.live fs 2) ∧ fs[k]? = some (.agg [I64 m.price, c]) ∧
    FilmsM n0 (l.set k ⟨x, m.crowd⟩) v (bl.set id (.live (fs.set k (.agg [I64 x, c])) 2)) := by
  obtain ⟨fs, h2, hfs⟩ := h
  have hlen := hfs.len
  have hkl := (List.getElem?_eq_some_iff.1 hm).1
  rcases h2 with ⟨rfl, _⟩ | ⟨h1, id, hid, rfl, hb⟩
  · simp at hlen; omega
  have hfa : ∀ (l : List Mv) (fs : List AV) (k : Nat) (m : Mv), FA (FilmAt n0 bl) l fs → l[k]? = some m → ∃ c, fs[k]? = some (.agg [I64 m.price, c]) ∧ FA (FilmAt n0 bl) (l.set k ⟨x, m.crowd⟩) (fs.set k (.agg [I64 x, c])) := by
    intro l
    induction l with
    | nil => intro fs k m _ hm; cases hm
    | cons y l ih =>
      intro fs k m h hm
      cases fs with
      | nil => exact h.elim
      | cons a fs =>
        cases k with
        | zero =>
          cases hm
          obtain ⟨⟨c, rfl, hc⟩, h3⟩ := h
          exact ⟨c, rfl, ⟨c, rfl, hc⟩, h3⟩
        | succ k =>
          obtain ⟨c, e1, e2⟩ := ih fs k m h.2 hm
          exact ⟨c, e1, h.1, e2⟩
  obtain ⟨c, hc, hfa2⟩ := hfa l fs k m hfs hm
  refine ⟨id, fs, c, hid, ?_, hb, hc, fs.set k (.agg [I64 x, c]), .inr ⟨by simpa using h1, id, hid, by simp, List.getElem?_set_self (List.getElem?_eq_some_iff.1 hb).1⟩, ?_⟩
  · rw [idxAt_ref, lsz_eq, hb, if_pos ⟨⟨by omega, by omega⟩, rfl⟩]; simp
  · exact FA.imp (fun m a ⟨c, e, hc⟩ => ⟨c, e, hc.set (.inr ⟨hb, by decide⟩)⟩) hfa2
theorem OV.setF {n0 : Nat} {es : List AV} {sz : Nat} {v : AV} {bl : List Blk} (h : OV n0 es sz v bl) {id : Nat} {fs : List AV} (hb : bl[id]? = some (.live fs 2)) (hsz : sz ≠ 2) (b : Blk) : OV n0 es sz v (bl.set id b) := h.set (.inr ⟨hb, fun e => hsz e.symm⟩)
def priceF (t : Int) (m : Mv) : Mv := ⟨m.price * t, m.crowd⟩
def pricedK (w : Wk) (t : Int) (k : Nat) : List Mv := (w.films.take k).map (priceF t) ++ w.films.drop k
theorem pricedK_step {w : Wk} {t : Int} {k : Nat} {m : Mv} (hm : w.films[k]? = some m) : (pricedK w t k)[k]? = some m ∧ (pricedK w t k).set k ⟨m.price * t, m.crowd⟩ = pricedK w t (k + 1) := by
  have hkl := (List.getElem?_eq_some_iff.1 hm).1
  have hd : w.films.drop k = m :: w.films.drop (k + 1) := by rw [List.drop_eq_getElem_cons hkl]; congr 1; exact Option.some.inj ((List.getElem?_eq_getElem hkl).symm.trans hm)
  have hl : ((w.films.take k).map (priceF t)).length = k := by simp; omega
  unfold pricedK
  rw [hd]
  refine ⟨?_, ?_⟩
  · rw [List.getElem?_append_right (by omega), hl]; simp
  · rw [set_at _ _ _ _ hl, List.take_add_one, hm, List.map_append]; simp [priceF]
def priceW (w : Wk) (t : Int) : Wk := ⟨w.days, w.rooms, w.hours, w.films.map (priceF t), w.deals⟩
def moreW (w : Wk) (m : Mv) : Wk := ⟨w.days, w.rooms, w.hours, w.films ++ [m], w.deals⟩
theorem sumI_scale (c : Int) (f : Nat → Int) : ∀ n a, sumI n a (fun i => f i * c) = sumI n a f * c := sumI_mul c f
theorem price_see (w : Wk) (t f : Int) (s h : Nat) : seeV (priceW w t) f s h = seeV w f s h * t := by
  unfold seeV
  split
  · simp
  · show (match (w.films.map (priceF t))[f.toNat]? with | some m => m.price * min (m.crowd.getD h 0) (w.rooms.getD s 0) | none => 0) = _
    rw [List.getElem?_map]
    cases w.films[f.toNat]? with
    | none => simp
    | some m => show m.price * t * _ = m.price * _ * t; rw [Int.mul_right_comm]; rfl
theorem price_take (w : Wk) (t : Int) (p : List Int) : takeS (priceW w t) p = takeS w p * t := by
  unfold takeS
  rw [← sumI_mul]
  exact sumI_congr fun i _ _ => price_see w t _ _ _
theorem price_prog (w : Wk) (t : Int) (p : List Int) : progOK (priceW w t) p = progOK w p := by
  unfold progOK shR
  rw [show (priceW w t).films.length = w.films.length from List.length_map _]; rfl
theorem price_keeps (w : Wk) (t : Int) (p : List Int) : keepsAll (priceW w t) p ↔ keepsAll w p := by
  rw [keepsAll_deals, keepsAll_deals]
  exact ⟨fun h d hd => by rw [← keepsB_cg (w' := priceW w t) (w := w) rfl rfl]; exact h d hd, fun h d hd => by rw [keepsB_cg (w' := priceW w t) (w := w) rfl rfl]; exact h d hd⟩
theorem price_most {w : Wk} {t n e : Int} (ht : 0 ≤ t) (h : IsMost w n e) : IsMost (priceW w t) (n * t) e := by
  rcases h with ⟨h1, h2, h3⟩ | ⟨h1, ⟨p, h2, h3, h4⟩, h5⟩
  · exact .inl ⟨h1, by rw [h2]; simp, fun p hp hk => h3 p (by rw [← price_prog w t]; exact hp) ((price_keeps w t p).1 hk)⟩
  · exact .inr ⟨h1, ⟨p, by rw [price_prog]; exact h2, (price_keeps w t p).2 h3, by rw [price_take, h4]⟩, fun q hq hk => by
      rw [price_take]
      exact Int.mul_le_mul_of_nonneg_right (h5 q (by rw [← price_prog w t]; exact hq) ((price_keeps w t q).1 hk)) ht⟩
theorem more_prog {w : Wk} {m : Mv} {p : List Int} (h : progOK w p = true) : progOK (moreW w m) p = true := by
  have h1 := prog_in h
  unfold progOK at h ⊢
  simp only [Bool.and_eq_true, List.all_eq_true] at h ⊢
  refine ⟨fun f hf => inR_iff.2 ?_, h.2⟩
  have := h1 f hf
  show -1 ≤ f ∧ f ≤ (((w.films ++ [m]).length : Nat) : Int) - 1
  rw [List.length_append, List.length_singleton]
  omega
theorem more_take {w : Wk} {m : Mv} {p : List Int} (h : progOK w p = true) : takeS (moreW w m) p = takeS w p := by
  unfold takeS
  refine sumI_congr fun i _ h2 => ?_
  have h3 : p[i]? = some (p.getD i 0) := by rw [List.getD_eq_getElem?_getD, List.getElem?_eq_getElem (by omega)]; rfl
  have h4 := prog_in h _ (List.mem_of_getElem? h3)
  unfold seeV
  split
  · rfl
  · rename_i h5
    rw [beq_iff_eq] at h5
    rw [show (moreW w m).films[(p.getD i 0).toNat]? = w.films[(p.getD i 0).toNat]? from List.getElem?_append_left (by omega)]; rfl
theorem more_keeps (w : Wk) (m : Mv) (p : List Int) : keepsAll (moreW w m) p ↔ keepsAll w p := by
  rw [keepsAll_deals, keepsAll_deals]
  exact ⟨fun h d hd => by rw [← keepsB_cg (w' := moreW w m) (w := w) rfl rfl]; exact h d hd, fun h d hd => by rw [keepsB_cg (w' := moreW w m) (w := w) rfl rfl]; exact h d hd⟩
theorem more_most {w : Wk} {m : Mv} {n n' e' : Int} (h : IsMost w n 0) (h' : IsMost (moreW w m) n' e') : e' = 0 ∧ n ≤ n' := by
  rcases h with ⟨h1, _⟩ | ⟨_, ⟨p, h2, h3, h4⟩, _⟩
  · cases h1
  · rcases h' with ⟨_, _, g3⟩ | ⟨g1, _, g3⟩
    · exact absurd ((more_keeps w m p).2 h3) (g3 p (more_prog h2))
    · refine ⟨g1, ?_⟩
      have := g3 p (more_prog h2) ((more_keeps w m p).2 h3)
      rw [more_take h2] at this
      omega
end Go.Ab.T
end

section
namespace Go.Ab.T
set_option maxRecDepth 8000
set_option maxHeartbeats 4000000
/-- One film more, in memory. -/
theorem FilmsM.more {n0 : Nat} {l : List Mv} {v : AV} {bl : List Blk} (h : FilmsM n0 l v bl) (hn : n0 ≤ bl.length) (hl : l.length ≤ 1000) (m : Mv) (tk : List (Nat × Nat)) : ∃ v' bl' tk', appendAt ⟨bl, tk⟩ false v (.sl [encF m] .tight) 55 2 32 = some (v', ⟨bl', tk'⟩) ∧ v'.cells = [v'] ∧ v'.solid = true ∧
    (∀ i : Nat, i < n0 → bl'[i]? = bl[i]?) ∧ (∀ (id : Nat) (es : List AV) (sz : Nat), sz ≠ 2 → bl[id]? = some (Blk.live es sz) → bl'[id]? = some (Blk.live es sz)) ∧ ∀ (tk2 : List (Nat × Nat)) (b2 : List Blk) (q : Nat), (∀ (id : Nat) (es : List AV) (sz : Nat), n0 ≤ id → sz ≤ 2 → bl'[id]? = some (Blk.live es sz) → b2[id]? = some (Blk.live es sz)) → Ab.snap ⟨b2, tk2⟩ (q + 4) v' = encFs (l ++ [m]) := by
  obtain ⟨fs, h2, hfs⟩ := h
  have hlen := hfs.len
  have h1 : hdSz [encF m] 2 = true := rfl
  rcases h2 with ⟨rfl, rfl⟩ | ⟨hne, id, hid, rfl, hb⟩
  · have hl0 : l = [] := by cases l with
      | nil => rfl
      | cons _ _ => exact hfs.elim
    subst hl0
    refine ⟨.sl [encF m] (.at tk.length), bl, tk ++ [(1, 55)], ?_, rfl, rfl, fun i hi => rfl, fun id es sz _ h => h, fun tk2 b2 q _ => ?_⟩
    · simp only [appendAt, Mem.elems, h1]
      rw [if_neg (by simp), if_pos ⟨by simp only [List.length_nil, List.length_singleton, limit]; omega, rfl⟩]
      rfl
    · show AV.sl ([encF m].map (Ab.snap ⟨b2, tk2⟩ (q + 3))) .unk = _
      rw [List.map_cons, snF]; rfl
  · have hlt := (List.getElem?_eq_some_iff.1 hb).1
    refine ⟨.ref bl.length 0 (fs.length + 1), bl.set id .dead ++ [.live (fs ++ [encF m]) 2], tk, ?_, rfl, rfl, fun i hi => ?_, fun id2 es sz hsz h => ?_, fun tk2 b2 q hb2 => ?_⟩
    · simp only [appendAt, Mem.elems, hb, h1]
      rw [if_neg (by simp), if_neg (by simp), if_neg (by simp), if_pos ⟨⟨trivial, trivial⟩, by simp only [List.length_singleton, limit]; omega⟩]
      rfl
    · rw [List.getElem?_append_left (by simp; omega), List.getElem?_set_ne (by omega)]
    · have hne2 : id ≠ id2 := by rintro rfl; rw [hb] at h; cases h; exact hsz rfl
      rw [List.getElem?_append_left (by rw [List.length_set]; exact (List.getElem?_eq_some_iff.1 h).1), List.getElem?_set_ne hne2]; exact h
    · have hbn : b2[bl.length]? = some (.live (fs ++ [encF m]) 2) := hb2 _ _ _ hn (by decide) (by rw [List.getElem?_append_right (by simp)]; simp)
      rw [snap_ref, elems_ref]
      simp only [hbn, elBlk_live, List.length_append, List.length_singleton, Nat.zero_add, Nat.le_refl, if_true, List.drop_zero]
      rw [List.take_of_length_le (by simp)]
      have hmap : fs.map (Ab.snap ⟨b2, tk2⟩ (q + 3)) = l.map encF := FA.map (f := Ab.snap ⟨b2, tk2⟩ (q + 3)) (g := encF) (fun x y ⟨c, e, hc⟩ => by
        refine FilmAt.snap (n0 := n0) ⟨c, e, hc.keep fun id3 hi3 h3 => hb2 _ _ _ hi3 (by decide) ?_⟩ tk2 q
        have hne3 : id ≠ id3 := by rintro rfl; rw [hb] at h3; cases h3
        rw [List.getElem?_append_left (by rw [List.length_set]; exact (List.getElem?_eq_some_iff.1 h3).1), List.getElem?_set_ne hne3]; exact h3) hfs
      show AV.sl ((fs ++ [encF m]).map (Ab.snap ⟨b2, tk2⟩ (q + 3))) .unk = _
      rw [List.map_append, hmap, List.map_cons, snF]
      unfold encFs
      rw [List.map_append]; rfl
end Go.Ab.T
end

section
namespace Go.Ab.T
set_option maxRecDepth 8000
set_option maxHeartbeats 4000000
theorem takeS_le {w : Wk} (hw : WV w) {p : List Int} (hp : progOK w p = true) : takeS w p ≤ 800000 := by
  have h1 := (sumI_le (fun i => seeV_le hw (p.getD i 0) (i / w.hours.toNat % w.rooms.length) (i % w.hours.toNat)) p.length 0).2
  have h2 := prog_len hw hp
  have h3 : takeS w p ≤ p.length * 100000 := h1
  omega
theorem tk_le {w : Wk} (hc : chkW w = 0) : 0 ≤ (bestO w).1.tk ∧ (bestO w).1.tk ≤ 800000 := by
  have hw := WV_of (chkW_ok hc).1
  rcases Most_spec hc with ⟨_, h, _⟩ | ⟨_, ⟨p, h1, _, h3⟩, _⟩
  · rw [h]; decide
  · rw [← h3]; exact ⟨takeS_nn hc, takeS_le hw h1⟩
def filmsW (w : Wk) (l : List Mv) : Wk := ⟨w.days, w.rooms, w.hours, l, w.deals⟩
theorem WeekPrices_run (w : Wk) (hfl : FL w) (times : Int) (m : Mv) : RV ft 10 [encW w, I64 times, encF m] (.bool true) := by
  refine RV_of ft10 rfl ?_
  simp only [c10, r10]
  cases hr : readyB w
  case false => simp only [go_sem, Nat.reduceEqDiff, Nat.reduceAdd, Nat.reduceLT, Nat.reduceLeDiff, reduceIte, WCells, WEta, FCells, FEta, DCells, DEta, cellsIs, solidIs, cellsFs, solidFs, cellsDs, solidDs, Bool.and_self, Is_len, Fs_len, Ds_len, true_and, snW, hotW, snD, hotD, snIs, hotIs, WB30, WVH_eq (ready_ok w hfl), hr, WB12, WVH_eq works_ok]
  cases ht1 : decide (times < 1)
  case true => simp only [go_sem, Nat.reduceEqDiff, Nat.reduceAdd, Nat.reduceLT, Nat.reduceLeDiff, reduceIte, WCells, WEta, FCells, FEta, DCells, DEta, cellsIs, solidIs, cellsFs, solidFs, cellsDs, solidDs, Bool.and_self, Is_len, Fs_len, Ds_len, true_and, snW, hotW, snD, hotD, snIs, hotIs, WB30, WVH_eq (ready_ok w hfl), hr, ht1, WB12, WVH_eq works_ok]
  cases ht2 : decide (20 < times)
  case true => simp only [go_sem, Nat.reduceEqDiff, Nat.reduceAdd, Nat.reduceLT, Nat.reduceLeDiff, reduceIte, WCells, WEta, FCells, FEta, DCells, DEta, cellsIs, solidIs, cellsFs, solidFs, cellsDs, solidDs, Bool.and_self, Is_len, Fs_len, Ds_len, true_and, snW, hotW, snD, hotD, snIs, hotIs, WB30, WVH_eq (ready_ok w hfl), hr, ht1, ht2, WB12, WVH_eq works_ok]
  have t1 := of_decide_eq_false ht1
  have t2 := of_decide_eq_false ht2
  have hc := ready_chk hr
  have hw := WV_of (chkW_ok hc).1
  have hF := hw.f
  simp only [go_sem, Nat.reduceEqDiff, Nat.reduceAdd, Nat.reduceLT, Nat.reduceLeDiff, reduceIte, WCells, WEta, FCells, FEta, DCells, DEta, cellsIs, solidIs, cellsFs, solidFs, cellsDs, solidDs, Bool.and_self, Is_len, Fs_len, Ds_len, true_and, snW, hotW, snD, hotD, snIs, hotIs, WB30, WVH_eq (ready_ok w hfl), hr, ht1, ht2, WB22, WVH_eq (Most_ok w)]
  refine Copy_o w hw.small _ _ _ _ fun v1 v2 v3 X hX => ?_
  obtain ⟨p1, p2, p3⟩ := hX.parts
  obtain ⟨a1, a2, a3⟩ := p1.cells
  obtain ⟨b1, b2, b3⟩ := p2.cells
  obtain ⟨d1, d2, d3⟩ := p3.cells
  simp only [go_sem, Nat.reduceEqDiff, Nat.reduceAdd, Nat.reduceLT, Nat.reduceLeDiff, reduceIte, a1, a2, a3, b1, b2, b3, d1, d2, d3]
  refine WL_inv (α := Nat × List Mv) (fun q e mm => e 1 = I64 times ∧ e 3 = .ptr 0 0 0 ∧ e 5 = .ptr 1 0 0 ∧ e 7 = I64 (bestO w).1.tk ∧ e 8 = I64 (bestO w).2 ∧ e 9 = .ptr (X.length + 2) 0 0 ∧ e 10 = I64 q.1 ∧ w.films.drop q.1 = q.2 ∧ q.1 ≤ w.films.length ∧ ∃ BL, mm = ⟨BL, []⟩ ∧ BL[0]? = some (.live [encW w] 5) ∧ BL[1]? = some (.live [encF m] 2) ∧ BL[X.length + 2]? = some (.live [.agg [I64 w.days, v1, I64 w.hours, v2, v3]] 5) ∧ WeekM 4 (filmsW w (pricedK w times q.1)) (.agg [I64 w.days, v1, I64 w.hours, v2, v3]) BL) (fun q => q.2.length) (0, w.films) ?_ ?_
  · simp only [go_sem, Nat.reduceEqDiff, Nat.reduceAdd, Nat.reduceLT, Nat.reduceLeDiff, reduceIte]
    refine ⟨trivial, trivial, trivial, trivial, trivial, ?_, rfl, trivial, Nat.zero_le _, _, rfl, rfl, rfl, ?_, ?_⟩
    · first | rfl | trivial
    · rw [show Blk.live [encW w] 5 :: Blk.live [encF m] 2 :: (X ++ [Blk.live [AV.agg [I64 w.days, v1, I64 w.hours, v2, v3]] 5]) = (Blk.live [encW w] 5 :: Blk.live [encF m] 2 :: X) ++ Blk.live [AV.agg [I64 w.days, v1, I64 w.hours, v2, v3]] 5 :: [] by simp]
      exact get_mid _ _ _ (by simp)
    · have h0 : filmsW w (pricedK w times 0) = w := by unfold filmsW pricedK; simp
      rw [h0]
      exact hX.app [.live [.agg [I64 w.days, v1, I64 w.hours, v2, v3]] 5]
  rintro ⟨k, r⟩ e mm ⟨g1, g3, g5, g7, g8, g9, g10, hdr, hkl, BL, rfl, B0, B1, B9, hM⟩
  dsimp only at g10 hdr hkl hM
  obtain ⟨q1, q2, q3⟩ := hM.parts
  have hpl : (pricedK w times k).length = w.films.length := by unfold pricedK; simp; omega
  have hlen : ∀ tk, lenAt ⟨BL, tk⟩ v2 = some (I64 w.films.length) := fun tk => by
    have := q2.len tk
    rw [show (filmsW w (pricedK w times k)).films = pricedK w times k from rfl, hpl] at this
    exact this
  cases r with
  | cons x r =>
    obtain ⟨hk, hd2, hlt⟩ := drop_cons hdr
    obtain ⟨hs1, hs2⟩ := pricedK_step (t := times) hk
    obtain ⟨id, fs, c, hid, hix, hb, hfs, hn⟩ := q2.price hs1 [] (x.price * times)
    rw [show (filmsW w (pricedK w times k)).films = pricedK w times k from rfl, hs2] at hn
    have hmv := hw.films x (List.mem_of_getElem? hk)
    unfold mvOK at hmv
    simp only [Bool.and_eq_true, inR_iff] at hmv
    have hm0 : 0 ≤ x.price * times := Int.mul_nonneg hmv.1.1 (by omega)
    have hm1 : x.price * times ≤ 100 * times := Int.mul_le_mul_of_nonneg_right hmv.1.2 (by omega)
    have wp : IntKind.i64.wrap (x.price * times) = x.price * times := wrap_i64 _ (by omega) (by omega)
    simp only [go_sem, Nat.reduceEqDiff, Nat.reduceAdd, Nat.reduceLT, Nat.reduceLeDiff, reduceIte, g1, g3, g5, g7, g8, g9, g10, B9, b1, hlen, dec_lt hlt, hix, hb, hfs, Nat.zero_add, Nat.add_zero, wp, wrap_n1 k (by omega)]
    refine Nx_of (k + 1, r) (by simp) ?_
    simp only [go_sem, Nat.reduceEqDiff, Nat.reduceAdd, Nat.reduceLT, Nat.reduceLeDiff, reduceIte, g1, g3, g5, g7, g8, g9]
    have hid9 : id ≠ X.length + 2 := by rintro rfl; rw [hb] at B9; cases B9
    refine ⟨trivial, trivial, trivial, trivial, trivial, trivial, trivial, hd2, by omega, _, rfl, ?_, ?_, ?_, v1, v2, v3, rfl, q1.setF hb (by decide) _, hn, q3.setF hb (by decide) _⟩
    · rw [List.getElem?_set_ne (by omega)]; exact B0
    · rw [List.getElem?_set_ne (by omega)]; exact B1
    · rw [List.getElem?_set_ne hid9]; exact B9
  | nil =>
    have hge := drop_nil hdr
    have hke : k = w.films.length := by omega
    subst hke
    have hP : filmsW w (pricedK w times w.films.length) = priceW w times := by unfold filmsW pricedK priceW; simp
    rw [hP] at hM q1 q2 q3
    have s1 : ∀ tk q, snap ⟨BL, tk⟩ (q + 2) v1 = encIs w.rooms := fun tk q => q1.snapI tk q
    have s2 : ∀ tk q, snap ⟨BL, tk⟩ (q + 4) v2 = encFs (priceW w times).films := fun tk q => q2.snap tk q
    have s3 : ∀ tk q, snap ⟨BL, tk⟩ (q + 3) v3 = encDs w.deals := fun tk q => q3.snapD tk q
    have hEW : AV.agg [I64 w.days, encIs w.rooms, I64 w.hours, encFs (priceW w times).films, encDs w.deals] = encW (priceW w times) := rfl
    have htk := tk_le hc
    have hmul0 : 0 ≤ (bestO w).1.tk * times := Int.mul_nonneg htk.1 (by omega)
    have hmul1 : (bestO w).1.tk * times ≤ 800000 * times := Int.mul_le_mul_of_nonneg_right htk.2 (by omega)
    have wm : IntKind.i64.wrap ((bestO w).1.tk * times) = (bestO w).1.tk * times := wrap_i64 _ (by omega) (by omega)
    have hBl := (List.getElem?_eq_some_iff.1 B9).1
    have tail : ∀ (e : Nat → AV), e 3 = .ptr 0 0 0 → e 5 = .ptr 1 0 0 → e 7 = I64 (bestO w).1.tk → e 8 = I64 (bestO w).2 → True := fun _ _ _ _ _ => trivial
    cases hcc : chkW (priceW w times) == 0
    case' true =>
      have hc2 := eq_of_beq hcc
      have hu := (Most_spec hc2).uniq (price_most (by omega : (0 : Int) ≤ times) (Most_spec hc))
      have hM2 := Most_ok (priceW w times)
      rw [hu.1, hu.2] at hM2
      simp only [go_sem, Nat.reduceEqDiff, Nat.reduceAdd, Nat.reduceLT, Nat.reduceLeDiff, reduceIte, g1, g3, g5, g7, g8, g9, g10, B0, B1, B9, b1, a1, d1, hlen, dec_ge hge, s1, s2, s3, hEW, WB15, WVH_eq (CheckR_ok (priceW w times)), Bool.or_true, true_and, hcc, WB22, WVH_eq hM2, wm, show ∀ x : Int, (x != x) = false from fun x => by simp, WCells, WEta, snW]
    case' false => simp only [go_sem, Nat.reduceEqDiff, Nat.reduceAdd, Nat.reduceLT, Nat.reduceLeDiff, reduceIte, g1, g3, g5, g7, g8, g9, g10, B0, B1, B9, b1, a1, d1, hlen, dec_ge hge, s1, s2, s3, hEW, WB15, WVH_eq (CheckR_ok (priceW w times)), Bool.or_true, true_and, hcc, WCells, WEta, snW]
    all_goals
      refine Copy_o w hw.small _ _ _ _ fun u1 u2 u3 X2 hX2 => ?_
      obtain ⟨r1, r2, r3⟩ := hX2.parts
      obtain ⟨x1, x2, x3⟩ := r1.cells
      obtain ⟨y1, y2, y3⟩ := r2.cells
      obtain ⟨z1, z2, z3⟩ := r3.cells
      obtain ⟨D, hD⟩ : ∃ D, D = BL ++ X2 := ⟨_, rfl⟩
      rw [← hD] at r1 r2 r3 ⊢
      have hDl : BL.length ≤ D.length := by rw [hD]; simp
      have D1 : ∀ b : Blk, (D ++ [b])[1]? = some (.live [encF m] 2) := fun b => by
        rw [hD, List.append_assoc, List.getElem?_append_left (by omega)]; exact B1
      have D0 : ∀ b : Blk, (D ++ [b])[0]? = some (.live [encW w] 5) := fun b => by
        rw [hD, List.append_assoc, List.getElem?_append_left (by omega)]; exact B0
      have hx2 : BL.length + 2 ≤ D.length := by
        have r1' := r1
        rcases r1' with ⟨h, _⟩ | ⟨_, id, hid, _, hb⟩
        · have := hw.r1; simp at h; rw [h] at this; simp at this
        · have := (List.getElem?_eq_some_iff.1 hb).1; omega
      have hmo := FilmsM.more (bl := D ++ [.live [.agg [I64 w.days, u1, I64 w.hours, u2, u3]] 5]) (let ⟨fs, h2, hfs⟩ := r2; ⟨fs, h2.app _, FA.imp (fun x y ⟨c, e, hc⟩ => ⟨c, e, hc.app _⟩) hfs⟩) (by simp; omega) (by omega) m []
      obtain ⟨v', bl', tk', ha, f1, f2, fk1, fk2, fsn⟩ := hmo
      have E1 : bl'[1]? = some (.live [encF m] 2) := by rw [fk1 1 (by omega)]; exact D1 _
      have E13 : bl'[D.length]? = some (.live [.agg [I64 w.days, u1, I64 w.hours, u2, u3]] 5) := fk2 _ _ _ (by decide) (get_last _ _)
      have hEl := (List.getElem?_eq_some_iff.1 E13).1
      have G1 : ∀ b : Blk, (bl'.set D.length b)[1]? = some (.live [encF m] 2) := fun b => by rw [List.getElem?_set_ne (by omega)]; exact E1
      have G13 : ∀ b : Blk, (bl'.set D.length b)[D.length]? = some b := fun b => List.getElem?_set_self hEl
      have kp : ∀ {n0 : Nat} {es : List AV} {sz : Nat} {v : AV} (b : Blk), sz ≠ 2 → sz ≠ 5 → OV n0 es sz v D → OV n0 es sz v (bl'.set D.length b) := fun {n0 es sz v} b h2 h5 h => h.keep fun id _ hb => by
        have hne : D.length ≠ id := by rintro rfl; have := (List.getElem?_eq_some_iff.1 hb).1; omega
        rw [List.getElem?_set_ne hne]
        exact fk2 _ _ _ h2 (by rw [List.getElem?_append_left (List.getElem?_eq_some_iff.1 hb).1]; exact hb)
      have S1 : ∀ b tk q, snap ⟨bl'.set D.length b, tk⟩ (q + 2) u1 = encIs w.rooms := fun b tk q => (kp b (by decide) (by decide) r1).snapI tk q
      have S3 : ∀ b tk q, snap ⟨bl'.set D.length b, tk⟩ (q + 3) u3 = encDs w.deals := fun b tk q => (kp b (by decide) (by decide) r3).snapD tk q
      have S2 : ∀ (es : List AV) (tk : List (Nat × Nat)) (q : Nat), snap ⟨bl'.set D.length (.live es 5), tk⟩ (q + 4) v' = encFs (w.films ++ [m]) := fun es tk q => fsn tk _ q fun id es2 sz _ hsz hb => by
        have hne : D.length ≠ id := by rintro rfl; rw [E13] at hb; cases hb; exact absurd hsz (by decide)
        rw [List.getElem?_set_ne hne]; exact hb
      have hEW2 : AV.agg [I64 w.days, encIs w.rooms, I64 w.hours, encFs (w.films ++ [m]), encDs w.deals] = encW (moreW w m) := rfl
      have hfl2 : FL (moreW w m) := by show (w.films ++ [m]).length < _; simp; omega
      cases h20 : decide (20 < m.crowd.length)
      case true => simp only [go_sem, Nat.reduceEqDiff, Nat.reduceAdd, Nat.reduceLT, Nat.reduceLeDiff, reduceIte, g8, g7, g5, D1, x1, y1, z1, x2, y2, z2, x3, y3, z3, FCells, FEta, ha, f1, f2, E1, E13, G1, G13, cellsIs, solidIs, Is_len, dec20, h20, WB12, WVH_eq works_ok]
      cases hr2 : readyB (moreW w m)
      case false => simp only [go_sem, Nat.reduceEqDiff, Nat.reduceAdd, Nat.reduceLT, Nat.reduceLeDiff, reduceIte, g8, g7, g5, D1, x1, y1, z1, x2, y2, z2, x3, y3, z3, FCells, FEta, ha, f1, f2, E1, E13, G1, G13, cellsIs, solidIs, Is_len, dec20, h20, S1, S2, S3, hEW2, WB30, WVH_eq (ready_ok _ hfl2), hr2, Bool.or_true, true_and, WB12, WVH_eq works_ok]
      have hc3 := ready_chk hr2
      cases he0 : (bestO w).2 != 0
      case true => simp only [go_sem, Nat.reduceEqDiff, Nat.reduceAdd, Nat.reduceLT, Nat.reduceLeDiff, reduceIte, g8, g7, g5, D1, x1, y1, z1, x2, y2, z2, x3, y3, z3, FCells, FEta, ha, f1, f2, E1, E13, G1, G13, cellsIs, solidIs, Is_len, dec20, h20, S1, S2, S3, hEW2, WB30, WVH_eq (ready_ok _ hfl2), hr2, Bool.or_true, true_and, WB22, WVH_eq (Most_ok (moreW w m)), he0, WB12, WVH_eq works_ok]
      have he1 : (bestO w).2 = 0 := by simpa [bne] using he0
      have hms := Most_spec hc
      rw [he1] at hms
      obtain ⟨k1, k2⟩ := more_most hms (Most_spec hc3)
      simp only [go_sem, Nat.reduceEqDiff, Nat.reduceAdd, Nat.reduceLT, Nat.reduceLeDiff, reduceIte, g8, g7, g5, D1, x1, y1, z1, x2, y2, z2, x3, y3, z3, FCells, FEta, ha, f1, f2, E1, E13, G1, G13, cellsIs, solidIs, Is_len, dec20, h20, S1, S2, S3, hEW2, WB30, WVH_eq (ready_ok _ hfl2), hr2, Bool.or_true, true_and, WB22, WVH_eq (Most_ok (moreW w m)), he0, k1, show ((0 : Int) == 0) = true from rfl, decide_eq_true k2, WB12, WVH_eq works_ok]
end Go.Ab.T
end
