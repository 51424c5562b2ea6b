/-
 A part of the proofs over this seat.
 (The texts KwK32, one behind the other.)
-/
import Derived.Test.YtikfmbopfconkaaP12
set_option linter.unusedSimpArgs false
set_option linter.unusedVariables false
set_option linter.unusedSectionVars false
section
namespace Go.Ab.T
set_option maxRecDepth 8000
set_option maxHeartbeats 4000000
theorem OV.shift {n0 nb nt : Nat} {es es' : List AV} {sz : Nat} {v : AV} {bl b0 : List Blk} (h : OV n0 es sz v bl) (hes : es.map (Ab.shift nb nt 9) = es') (hb : b0.length = nb) (k : Nat) : OV (nb + n0) es' sz (Ab.shift nb nt (k + 1) v) (b0 ++ bl.map (shiftB nb nt 9)) := by
 rcases h with ⟨rfl, rfl⟩ | ⟨h1, id, h2, rfl, h3⟩
 ·exact .inl ⟨hes.symm, rfl⟩
 ·refine .inr ⟨fun h => h1 (by rw [h] at hes; exact List.map_eq_nil_iff.1 hes), nb + id, by omega, ?_, ?_⟩
  ·show AV.ref (nb + id) 0 es.length = _
   rw [← hes, List.length_map]
  ·rw [List.getElem?_append_right (by omega), show nb + id - b0.length = id by omega, List.getElem?_map, h3, ← hes]; rfl
theorem WeekM.shift {n0 nb nt : Nat} {w : Wk} {v : AV} {bl b0 : List Blk} (h : WeekM n0 w v bl) (hb : b0.length = nb) : WeekM (nb + n0) w (Ab.shift nb nt 9 v) (b0 ++ bl.map (shiftB nb nt 9)) := by
 obtain ⟨v1, v2, v3, rfl, h1, ⟨fs, h2, hfs⟩, h3⟩ := h
 refine ⟨Ab.shift nb nt 8 v1, Ab.shift nb nt 8 v2, Ab.shift nb nt 8 v3, rfl, h1.shift ?_ hb 7, ⟨fs.map (Ab.shift nb nt 9), h2.shift rfl hb 7, ?_⟩, h3.shift ?_ hb 7⟩
 ·rw [List.map_map]; rfl
 ·have key : ∀ (l : List Mv) (fs : List AV), FA (FilmAt n0 bl) l fs → FA (FilmAt (nb + n0) (b0 ++ bl.map (shiftB nb nt 9))) l (fs.map (Ab.shift nb nt 9)) := by
   intro l
   induction l with
   | nil => intro fs h; cases fs with
    | nil => trivial
    | cons _ _ => exact h.elim
   | cons m l ih => intro fs h; cases fs with
    | nil => exact h.elim
    | cons a fs =>
     obtain ⟨⟨c, rfl, hc⟩, h2⟩ := h
     exact ⟨⟨Ab.shift nb nt 8 c, rfl, hc.shift (by rw [List.map_map]; rfl) hb 7⟩, ih fs h2⟩
  exact key _ _ hfs
 ·rw [List.map_map]; rfl
/-- A copy that shares the memory. -/
theorem Copy_o (w : Wk) (hs : Small w) (e : Nat → AV) (bl : List Blk) (tk : List (Nat × Nat)) (K : AV → St → Prop)
  (hK : ∀ v1 v2 v3 X, WeekM (bl.length + 2) w (.agg [I64 w.days, v1, I64 w.hours, v2, v3]) (bl ++ X) → K (.agg [I64 w.days, v1, I64 w.hours, v2, v3]) ⟨e, ⟨bl ++ X, tk⟩⟩) : WB ft 13 [encW w] ⟨e, ⟨bl, tk⟩⟩ K := by
 rw [WB13]
 simp only [List.map_cons, List.map_nil, mem_mk, blks_mk, toks_mk, snW, dep_eq, List.all_cons, List.all_nil]
 refine Copy_run w hs _ fun v bl2 h => ?_
 have h2 := h.shift (nb := bl.length) (nt := tk.length) (b0 := bl) rfl
 obtain ⟨v1, v2, v3, he, _⟩ := h2
 have h2 := h.shift (nb := bl.length) (nt := tk.length) (b0 := bl) rfl
 refine ⟨by rw [hotW]; rfl, ?_⟩
 rw [he] at h2 ⊢
 have := hK v1 v2 v3 _ h2
 simpa [joinMem, setMem_mk] using this
theorem WeekM.app {n0 : Nat} {w : Wk} {v : AV} {bl : List Blk} (h : WeekM n0 w v bl) (x : List Blk) : WeekM n0 w v (bl ++ x) := by
 obtain ⟨v1, v2, v3, rfl, h1, ⟨fs, h2, hfs⟩, h3⟩ := h
 exact ⟨v1, v2, v3, rfl, h1.app x, ⟨fs, h2.app x, FA.imp (fun m a ⟨c, e, hc⟩ => ⟨c, e, hc.app x⟩) hfs⟩, h3.app x⟩
/-- The parts of a week in memory. -/
theorem WeekM.parts {n0 : Nat} {w : Wk} {v1 v2 v3 : AV} {bl : List Blk} (h : WeekM n0 w (.agg [I64 w.days, v1, I64 w.hours, v2, v3]) bl) : OV n0 (w.rooms.map I64) 1 v1 bl ∧ FilmsM n0 w.films v2 bl ∧ OV n0 (w.deals.map encD) 8 v3 bl := by
 obtain ⟨u1, u2, u3, he, h1, h2, h3⟩ := h
 cases he
 exact ⟨h1, h2, h3⟩
theorem OV.snapI {n0 : Nat} {l : List Int} {v : AV} {bl : List Blk} (h : OV n0 (l.map I64) 1 v bl) (tk : List (Nat × Nat)) (q : Nat) : Ab.snap ⟨bl, tk⟩ (q + 2) v = encIs l := by
 rw [h.snap, List.map_map, show Ab.snap ⟨bl, tk⟩ (q + 1) ∘ I64 = I64 from funext fun _ => rfl]; rfl
theorem OV.snapD {n0 : Nat} {l : List Dl} {v : AV} {bl : List Blk} (h : OV n0 (l.map encD) 8 v bl) (tk : List (Nat × Nat)) (q : Nat) : Ab.snap ⟨bl, tk⟩ (q + 3) v = encDs l := by
 rw [h.snap, List.map_map, show Ab.snap ⟨bl, tk⟩ (q + 2) ∘ encD = encD from funext fun d => snD _ _ d]; rfl
theorem FilmsM.snap {n0 : Nat} {l : List Mv} {v : AV} {bl : List Blk} (h : FilmsM n0 l v bl) (tk : List (Nat × Nat)) (q : Nat) : Ab.snap ⟨bl, tk⟩ (q + 4) v = encFs l := by
 obtain ⟨fs, h2, hfs⟩ := h
 rw [h2.snap, show fs.map (Ab.snap ⟨bl, tk⟩ (q + 3)) = l.map encF from FA.map (f := Ab.snap ⟨bl, tk⟩ (q + 3)) (g := encF) (fun x y hxy => FilmAt.snap hxy tk q) hfs]; rfl
theorem FilmsM.cells {n0 : Nat} {l : List Mv} {v : AV} {bl : List Blk} (h : FilmsM n0 l v bl) : v.cells = [v] ∧ v.solid = true ∧ v.isAgg = false := by
 obtain ⟨fs, h2, _⟩ := h; exact h2.cells
theorem FilmsM.len {n0 : Nat} {l : List Mv} {v : AV} {bl : List Blk} (h : FilmsM n0 l v bl) (tk : List (Nat × Nat)) : lenAt ⟨bl, tk⟩ v = some (I64 l.length) := by
 obtain ⟨fs, h2, hfs⟩ := h
 have := hfs.len
 rcases h2 with ⟨rfl, rfl⟩ | ⟨_, id, _, rfl, hb⟩
 ·rw [lenAt_sl, this]
 ·rw [lenAt_ref, lsz_eq, hb, this]; rfl
/-- A film of a week in memory: its place, and what a new price leaves. -/
theorem FilmsM.price {n0 : Nat} {l : List Mv} {v : AV} {bl : List Blk} (h : FilmsM n0 l v bl) {k : Nat} {m : Mv} (hm : l[k]? = some m) (tk : List (Nat × Nat)) (x : Int) : ∃ id fs c, n0 ≤ id ∧ idxAt ⟨bl, tk⟩ v (I64 k) 2 = some (.ptr id k 0) ∧ bl[id]? = some (.live fs 2) ∧ fs[k]? = some (.agg [I64 m.price, c]) ∧
  FilmsM n0 (l.set k ⟨x, m.crowd⟩) v (bl.set id (.live (fs.set k (.agg [I64 x, c])) 2)) := by
 obtain ⟨fs, h2, hfs⟩ := h
 have hlen := hfs.len
 have hkl := (List.getElem?_eq_some_iff.1 hm).1
 rcases h2 with ⟨rfl, _⟩ | ⟨h1, id, hid, rfl, hb⟩
 ·simp at hlen; omega
 have hfa : ∀ (l : List Mv) (fs : List AV) (k : Nat) (m : Mv), FA (FilmAt n0 bl) l fs → l[k]? = some m → ∃ c, fs[k]? = some (.agg [I64 m.price, c]) ∧ FA (FilmAt n0 bl) (l.set k ⟨x, m.crowd⟩) (fs.set k (.agg [I64 x, c])) := by
  intro l
  induction l with
  | nil => intro fs k m _ hm; cases hm
  | cons y l ih =>
   intro fs k m h hm
   cases fs with
   | nil => exact h.elim
   | cons a fs =>
    cases k with
    | zero =>
     cases hm
     obtain ⟨⟨c, rfl, hc⟩, h3⟩ := h
     exact ⟨c, rfl, ⟨c, rfl, hc⟩, h3⟩
    | succ k =>
     obtain ⟨c, e1, e2⟩ := ih fs k m h.2 hm
     exact ⟨c, e1, h.1, e2⟩
 obtain ⟨c, hc, hfa2⟩ := hfa l fs k m hfs hm
 refine ⟨id, fs, c, hid, ?_, hb, hc, fs.set k (.agg [I64 x, c]), .inr ⟨by simpa using h1, id, hid, by simp, List.getElem?_set_self (List.getElem?_eq_some_iff.1 hb).1⟩, ?_⟩
 ·rw [idxAt_ref, lsz_eq, hb, if_pos ⟨⟨by omega, by omega⟩, rfl⟩]; simp
 ·exact FA.imp (fun m a ⟨c, e, hc⟩ => ⟨c, e, hc.set (.inr ⟨hb, by decide⟩)⟩) hfa2
theorem OV.setF {n0 : Nat} {es : List AV} {sz : Nat} {v : AV} {bl : List Blk} (h : OV n0 es sz v bl) {id : Nat} {fs : List AV} (hb : bl[id]? = some (.live fs 2)) (hsz : sz ≠ 2) (b : Blk) : OV n0 es sz v (bl.set id b) := h.set (.inr ⟨hb, fun e => hsz e.symm⟩)
def priceF (t : Int) (m : Mv) : Mv := ⟨m.price * t, m.crowd⟩
def pricedK (w : Wk) (t : Int) (k : Nat) : List Mv := (w.films.take k).map (priceF t) ++ w.films.drop k
theorem pricedK_step {w : Wk} {t : Int} {k : Nat} {m : Mv} (hm : w.films[k]? = some m) : (pricedK w t k)[k]? = some m ∧ (pricedK w t k).set k ⟨m.price * t, m.crowd⟩ = pricedK w t (k + 1) := by
 have hkl := (List.getElem?_eq_some_iff.1 hm).1
 have hd : w.films.drop k = m :: w.films.drop (k + 1) := by rw [List.drop_eq_getElem_cons hkl]; congr 1; exact Option.some.inj ((List.getElem?_eq_getElem hkl).symm.trans hm)
 have hl : ((w.films.take k).map (priceF t)).length = k := by simp; omega
 unfold pricedK
 rw [hd]
 refine ⟨?_, ?_⟩
 ·rw [List.getElem?_append_right (by omega), hl]; simp
 ·rw [set_at _ _ _ _ hl, List.take_add_one, hm, List.map_append]; simp [priceF]
def priceW (w : Wk) (t : Int) : Wk := ⟨w.days, w.rooms, w.hours, w.films.map (priceF t), w.deals⟩
def moreW (w : Wk) (m : Mv) : Wk := ⟨w.days, w.rooms, w.hours, w.films ++ [m], w.deals⟩
theorem sumI_scale (c : Int) (f : Nat → Int) : ∀ n a, sumI n a (fun i => f i * c) = sumI n a f * c := sumI_mul c f
theorem price_see (w : Wk) (t f : Int) (s h : Nat) : seeV (priceW w t) f s h = seeV w f s h * t := by
 unfold seeV
 split
 ·simp
 ·show (match (w.films.map (priceF t))[f.toNat]? with | some m => m.price * min (m.crowd.getD h 0) (w.rooms.getD s 0) | none => 0) = _
  rw [List.getElem?_map]
  cases w.films[f.toNat]? with
  | none => simp
  | some m => show m.price * t * _ = m.price * _ * t; rw [Int.mul_right_comm]; rfl
theorem price_take (w : Wk) (t : Int) (p : List Int) : takeS (priceW w t) p = takeS w p * t := by
 unfold takeS
 rw [← sumI_mul]
 exact sumI_congr fun i _ _ => price_see w t _ _ _
theorem price_prog (w : Wk) (t : Int) (p : List Int) : progOK (priceW w t) p = progOK w p := by
 unfold progOK shR
 rw [show (priceW w t).films.length = w.films.length from List.length_map _]; rfl
theorem price_keeps (w : Wk) (t : Int) (p : List Int) : keepsAll (priceW w t) p ↔ keepsAll w p := by
 rw [keepsAll_deals, keepsAll_deals]
 exact ⟨fun h d hd => by rw [← keepsB_cg (w' := priceW w t) (w := w) rfl rfl]; exact h d hd, fun h d hd => by rw [keepsB_cg (w' := priceW w t) (w := w) rfl rfl]; exact h d hd⟩
theorem price_most {w : Wk} {t n e : Int} (ht : 0 ≤ t) (h : IsMost w n e) : IsMost (priceW w t) (n * t) e := by
 rcases h with ⟨h1, h2, h3⟩ | ⟨h1, ⟨p, h2, h3, h4⟩, h5⟩
 ·exact .inl ⟨h1, by rw [h2]; simp, fun p hp hk => h3 p (by rw [← price_prog w t]; exact hp) ((price_keeps w t p).1 hk)⟩
 ·exact .inr ⟨h1, ⟨p, by rw [price_prog]; exact h2, (price_keeps w t p).2 h3, by rw [price_take, h4]⟩, fun q hq hk => by
   rw [price_take]
   exact Int.mul_le_mul_of_nonneg_right (h5 q (by rw [← price_prog w t]; exact hq) ((price_keeps w t q).1 hk)) ht⟩
theorem more_prog {w : Wk} {m : Mv} {p : List Int} (h : progOK w p = true) : progOK (moreW w m) p = true := by
 have h1 := prog_in h
 unfold progOK at h ⊢
 simp only [Bool.and_eq_true, List.all_eq_true] at h ⊢
 refine ⟨fun f hf => inR_iff.2 ?_, h.2⟩
 have := h1 f hf
 show -1 ≤ f ∧ f ≤ (((w.films ++ [m]).length : Nat) : Int) - 1
 rw [List.length_append, List.length_singleton]
 omega
theorem more_take {w : Wk} {m : Mv} {p : List Int} (h : progOK w p = true) : takeS (moreW w m) p = takeS w p := by
 unfold takeS
 refine sumI_congr fun i _ h2 => ?_
 have h3 : p[i]? = some (p.getD i 0) := by rw [List.getD_eq_getElem?_getD, List.getElem?_eq_getElem (by omega)]; rfl
 have h4 := prog_in h _ (List.mem_of_getElem? h3)
 unfold seeV
 split
 ·rfl
 ·rename_i h5
  rw [beq_iff_eq] at h5
  rw [show (moreW w m).films[(p.getD i 0).toNat]? = w.films[(p.getD i 0).toNat]? from List.getElem?_append_left (by omega)]; rfl
theorem more_keeps (w : Wk) (m : Mv) (p : List Int) : keepsAll (moreW w m) p ↔ keepsAll w p := by
 rw [keepsAll_deals, keepsAll_deals]
 exact ⟨fun h d hd => by rw [← keepsB_cg (w' := moreW w m) (w := w) rfl rfl]; exact h d hd, fun h d hd => by rw [keepsB_cg (w' := moreW w m) (w := w) rfl rfl]; exact h d hd⟩
theorem more_most {w : Wk} {m : Mv} {n n' e' : Int} (h : IsMost w n 0) (h' : IsMost (moreW w m) n' e') : e' = 0 ∧ n ≤ n' := by
 rcases h with ⟨h1, _⟩ | ⟨_, ⟨p, h2, h3, h4⟩, _⟩
 ·cases h1
 ·rcases h' with ⟨_, _, g3⟩ | ⟨g1, _, g3⟩
  ·exact absurd ((more_keeps w m p).2 h3) (g3 p (more_prog h2))
  ·refine ⟨g1, ?_⟩
   have := g3 p (more_prog h2) ((more_keeps w m p).2 h3)
   rw [more_take h2] at this
   omega
end Go.Ab.T
end
