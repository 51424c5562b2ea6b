/-
  A part of the proofs over this seat.
  (The texts KlM3 KlK15, one behind the other.)
-/
import Derived.Test.YtcebfhalhcnnnaaP8
set_option linter.unusedSimpArgs false
set_option linter.unusedVariables false
set_option linter.unusedSectionVars false
section
namespace Go.Ab.T
/-! ### More truths -/
theorem upF_pw : ∀ (n : Nat) (a : Int), (upF n a).Pairwise (· < ·)
  | 0, _ => List.Pairwise.nil
  | n + 1, a => by
    rw [upF]
    refine List.Pairwise.cons (fun b hb => ?_) (upF_pw n (a + 1))
    have := (mem_upF n (a + 1) b).1 hb
    omega
theorem linM_nodup (l : Lm) : (linM l).Pairwise (· ≠ ·) := by
  unfold linM
  rw [List.pairwise_flatMap]
  refine ⟨fun a _ => ?_, ?_⟩
  · unfold linF
    rw [List.pairwise_map]
    exact (upF_pw _ _).imp fun {x y} h he => by
      have : x = y := congrArg Ln.fd he
      omega
  · refine (upF_pw _ _).imp fun {a b} h x hx y hy he => ?_
    obtain ⟨c, _, rfl⟩ := List.mem_map.1 hx
    obtain ⟨d, _, rfl⟩ := List.mem_map.1 hy
    have : a = b := congrArg Ln.fu he
    omega
theorem len_le {α : Type} : ∀ (a b : List α), a.Pairwise (· ≠ ·) → (∀ x ∈ a, x ∈ b) → a.length ≤ b.length
  | [], b, _, _ => Nat.zero_le _
  | x :: a, b, h1, h2 => by
    obtain ⟨s, t, rfl⟩ := List.append_of_mem (h2 x (by simp))
    have h3 := List.pairwise_cons.1 h1
    have := len_le a (s ++ t) h3.2 fun y hy => by
      have hne := h3.1 y hy
      have := h2 y (by simp [hy])
      rcases List.mem_append.1 this with h | h
      · exact List.mem_append_left _ h
      · rcases List.mem_cons.1 h with h | h
        · exact absurd h.symm hne
        · exact List.mem_append_right _ h
    simp only [List.length_append, List.length_cons] at this ⊢
    omega
theorem truM_nodup (l : Lm) : (truM l).Pairwise (· ≠ ·) := (linM_nodup l).filter _
/-- What is less known. -/
def delG (gs : List Gg) (n : Int) : List Gg := if 0 ≤ n ∧ n < (gs.length : Int) then gs.take n.toNat ++ gs.drop (n.toNat + 1) else gs
def oL (l : Lm) (n w f d : Int) : Lm := ⟨⟨max 0 (l.fu.lo - f), min 400 (l.fu.hi + f)⟩, ⟨max 0 (l.fd.lo - d), min 9 (l.fd.hi + d)⟩, l.no, l.ra, delG l.gs n, min 3 (l.wr + w)⟩
theorem wrN_app (a b : List Gg) (x : Ln) : wrN (a ++ b) x = wrN a x + wrN b x := by
  unfold wrN; rw [List.filter_append, List.length_append]
theorem delG_wr (gs : List Gg) (n : Int) (x : Ln) : wrN (delG gs n) x ≤ wrN gs x := by
  unfold delG
  split
  · rename_i h
    have h1 : n.toNat < gs.length := by omega
    have h2 : gs = gs.take n.toNat ++ (gs.drop n.toNat) := (List.take_append_drop _ _).symm
    have h3 : wrN gs x = wrN (gs.take n.toNat) x + wrN (gs.drop n.toNat) x := by
      rw [← wrN_app, ← h2]
    rw [wrN_app, h3, List.drop_eq_getElem_cons h1, wrN_cons]
    omega
  · exact Nat.le_refl _
theorem oL_sub {l : Lm} (hv : LV l) {n w f d : Int} (hw : 0 ≤ w) (hf : 0 ≤ f) (hd : 0 ≤ d) {x : Ln} (hx : x ∈ truM l) : x ∈ truM (oL l n w f d) := by
  rw [mem_truM] at hx ⊢
  obtain ⟨⟨h1, h2⟩, h3⟩ := hx
  unfold inS at h1 h2 ⊢
  rw [inR_iff] at h1 h2 ⊢
  rw [inR_iff]
  unfold isT at h3 ⊢
  have h4 := of_decide_eq_true h3
  have h5 := delG_wr l.gs n x
  have u2 := hv.u2; have u0 := hv.u0; have d0 := hv.d0; have d2 := hv.d2; have w1 := hv.w1
  refine ⟨⟨⟨?_, ?_⟩, ?_, ?_⟩, decide_eq_true ?_⟩
  · show max 0 (l.fu.lo - f) ≤ x.fu; omega
  · show x.fu ≤ min 400 (l.fu.hi + f); omega
  · show max 0 (l.fd.lo - d) ≤ x.fd; omega
  · show x.fd ≤ min 9 (l.fd.hi + d); omega
  · show (wrN (delG l.gs n) x : Int) ≤ min 3 (l.wr + w); omega
theorem at_sub {l o : Lm} {h : Int} (q1 : khM l h = 0) (q2 : khM o h = 0) (hs : ∀ x ∈ truM l, x ∈ truM o) : (atM o h).lo ≤ (atM l h).lo ∧ (atM l h).hi ≤ (atM o h).hi := by
  obtain ⟨s1, ⟨x, hx, e1⟩, ⟨y, hy, e2⟩⟩ := at_spec q1
  obtain ⟨t1, _, _⟩ := at_spec q2
  have := (t1 x (hs x hx)).1
  have := (t1 y (hs y hy)).2
  exact ⟨by omega, by omega⟩
theorem kp_sub {l o : Lm} {h : Int} (hn : o.no = l.no) (q1 : khM l h = 0) (q2 : khM o h = 0) (hs : ∀ x ∈ truM l, x ∈ truM o) : kpM o h = kpM l h ∨ kpM o h = 3 := by
  obtain ⟨hv, _, hne⟩ := khM_0.1 q1
  obtain ⟨x, hx⟩ := List.exists_mem_of_ne_nil _ hne
  have a1 : (truM l).any (fun x => inS l.no (lit x h)) = true → (truM o).any (fun x => inS l.no (lit x h)) = true := fun ha => by
    obtain ⟨y, hy, hk⟩ := List.any_eq_true.1 ha
    exact List.any_eq_true.2 ⟨y, hs y hy, hk⟩
  have a2 : (truM o).all (fun x => inS l.no (lit x h)) = true → (truM l).all (fun x => inS l.no (lit x h)) = true := fun ha =>
    List.all_eq_true.2 fun y hy => List.all_eq_true.1 ha y (hs y hy)
  have a3 : (truM l).all (fun x => inS l.no (lit x h)) = true → (truM l).any (fun x => inS l.no (lit x h)) = true := fun ha =>
    List.any_eq_true.2 ⟨x, hx, List.all_eq_true.1 ha x hx⟩
  unfold kpM
  rw [if_pos q1, if_pos q2, hn]
  cases c1 : (truM l).all (fun x => inS l.no (lit x h)) <;> cases c2 : (truM o).all (fun x => inS l.no (lit x h)) <;> cases c3 : (truM l).any (fun x => inS l.no (lit x h)) <;> cases c4 : (truM o).any (fun x => inS l.no (lit x h)) <;> simp_all
end Go.Ab.T
end

section
namespace Go.Ab.T
set_option maxRecDepth 8000
set_option maxHeartbeats 4000000
theorem W_frz_of {s : St} {Q : Ex → St → Prop} (h : ∀ e : Nat → AV, (∀ n, e n = Ab.snap s.mem dep (s.env n)) → ∀ m, Q .nxt ⟨e, m⟩) : W ft .frz s Q := by
  rw [W_frz]; exact h _ (fun _ => rfl) _
theorem snap_box {bl : List Blk} {tk : List (Nat × Nat)} {k id sz : Nat} {e : AV} (h : bl[id]? = some (.live [e] sz)) : Ab.snap ⟨bl, tk⟩ (k + 1) (.ptr id 0 0) = .pv (Ab.snap ⟨bl, tk⟩ k e) 0 := by
  simp [snap, h]
theorem get_last2 {α : Type} (l : List α) (a b : α) : (l ++ [a] ++ [b])[l.length]? = some a := by simp
theorem get_last2' {α : Type} (l : List α) (a b : α) : (l ++ [a] ++ [b])[l.length + 1]? = some b := by simp
theorem set_last2' {α : Type} (l : List α) (a b c : α) : (l ++ [a] ++ [b]).set (l.length + 1) c = l ++ [a] ++ [c] := by
  rw [List.set_append_right _ _ (by simp)]; simp
theorem shGs (a b q : Nat) (gs : List Gg) : (gs.map encG).map (shift a b (q + 2)) = gs.map encG := by
  rw [List.map_map, show shift a b (q + 2) ∘ encG = encG from funext fun _ => rfl]
theorem shL (a b q : Nat) (l : Lm) : shift a b (q + 4) (encL l) = encL l := by
  show AV.agg [I64 l.fu.lo, I64 l.fu.hi, I64 l.fd.lo, I64 l.fd.hi, I64 l.no.lo, I64 l.no.hi, I64 l.ra, .sl ((l.gs.map encG).map (shift a b (q + 2))) .unk, I64 l.wr] = _
  rw [shGs]; rfl
theorem shC0 (a b q : Nat) (l : Lm) : shift a b (q + 4) (encLG l (.sl [] .tight)) = encLG l (.sl [] .tight) := rfl
theorem shC1 (a b q : Nat) (l : Lm) (i o n : Nat) : shift a b (q + 4) (encLG l (.ref i o n)) = encLG l (.ref (a + i) o n) := rfl
theorem join_c0 (bl : List Blk) (l : Lm) : joinMem ⟨bl, []⟩ ⟨[.live [encL l] 9, .live [encLG l (.sl [] .tight)] 9, .live [encLG l (.sl [] .tight)] 9], []⟩ 12 = ⟨bl ++ [.live [encL l] 9, .live [encLG l (.sl [] .tight)] 9, .live [encLG l (.sl [] .tight)] 9], []⟩ := by
  simp only [joinMem, List.map_cons, List.map_nil, shiftB, shL _ _ 8, shC0 _ _ 8, List.append_nil]
theorem join_c1 (bl : List Blk) (l : Lm) (n : Nat) : joinMem ⟨bl, []⟩ ⟨[.live [encL l] 9, .live [encLG l (.ref 3 0 n)] 9, .live [encLG l (.ref 3 0 n)] 9, .live (l.gs.map encG) 3], []⟩ 12 = ⟨bl ++ [.live [encL l] 9, .live [encLG l (.ref (bl.length + 3) 0 n)] 9, .live [encLG l (.ref (bl.length + 3) 0 n)] 9, .live (l.gs.map encG) 3], []⟩ := by
  simp only [joinMem, List.map_cons, List.map_nil, shiftB, shL _ _ 8, shC1 _ _ 8, shGs _ _ 10, List.append_nil]
/-- What is looser. -/
def encX (n w f d : Int) : AV := .agg [I64 n, I64 w, I64 f, I64 d]
theorem XCells (n w f d : Int) : (encX n w f d).cells = [I64 n, I64 w, I64 f, I64 d] := rfl
theorem XEta (n w f d : Int) : AV.agg [I64 n, I64 w, I64 f, I64 d] = encX n w f d := rfl
theorem wLG8 (l : Lm) (F G : AV) : writeCells (encLG l F) 8 [G] = some (.agg [I64 l.fu.lo, I64 l.fu.hi, I64 l.fd.lo, I64 l.fd.hi, I64 l.no.lo, I64 l.no.hi, I64 l.ra, F, G]) := rfl
theorem snLG (m : Mem) (q : Nat) (l : Lm) (G : AV) (gs : List Gg) (h : Ab.snap m (q + 1) G = encGs gs) : Ab.snap m (q + 2) (encLG l G) = encL ⟨l.fu, l.fd, l.no, l.ra, gs, l.wr⟩ := by
  show AV.agg [I64 l.fu.lo, I64 l.fu.hi, I64 l.fd.lo, I64 l.fd.hi, I64 l.no.lo, I64 l.no.hi, I64 l.ra, Ab.snap m (q + 1) G, I64 l.wr] = _
  rw [h]; rfl
theorem sn_ref {bl : List Blk} {tk : List (Nat × Nat)} {id len sz : Nat} {es : List AV} {gs : List Gg} (h : bl[id]? = some (.live es sz)) (hl : len ≤ es.length) (he : es.take len = gs.map encG) (q : Nat) : Ab.snap ⟨bl, tk⟩ (q + 3) (.ref id 0 len) = encGs gs := by
  rw [snap_ref, elems_ref]
  simp only [go_sem, Nat.reduceEqDiff, Nat.reduceAdd, Nat.reduceLT, Nat.reduceLeDiff, reduceIte, h]
  rw [if_pos (by omega), snEs_some, he, map_snG]; rfl
def tl7_4 : ACode := (.seq (.region [⟨(some 180), none, .mov (.t 13)⟩,
    ⟨(some 181), none, .bin .eql (.t 180) (.c (.int .i64 0))⟩,
    ⟨(some 182), none, .mov (.t 181)⟩,
    ⟨(some 183), some (182, true), .mov (.t 15)⟩,
    ⟨(some 184), some (182, true), .bin .eql (.t 183) (.c (.int .i64 0))⟩,
    ⟨(some 185), none, .pick (.t 182) (.t 184) (.c (.bool false))⟩,
    ⟨(some 186), none, .mov (.t 185)⟩,
    ⟨(some 187), some (186, true), .mov (.t 17)⟩,
    ⟨(some 188), some (186, true), .bin .eql (.t 187) (.c (.int .i64 0))⟩,
    ⟨(some 189), none, .pick (.t 186) (.t 188) (.c (.bool false))⟩,
    ⟨(some 190), none, .mov (.t 189)⟩,
    ⟨(some 191), some (190, true), .mov (.t 19)⟩,
    ⟨(some 192), some (190, true), .bin .eql (.t 191) (.c (.int .i64 0))⟩,
    ⟨(some 193), none, .pick (.t 190) (.t 192) (.c (.bool false))⟩,
    ⟨(some 194), none, .mov (.t 193)⟩,
    ⟨(some 195), some (194, true), .addr (.t 14) 0⟩,
    ⟨(some 196), some (194, true), .load (.t 195) none⟩,
    ⟨(some 197), some (194, true), .addr (.t 12) 0⟩,
    ⟨(some 198), some (194, true), .load (.t 197) none⟩,
    ⟨(some 199), some (194, true), .bin .leq (.t 196) (.t 198)⟩,
    ⟨(some 200), none, .pick (.t 194) (.t 199) (.c (.bool false))⟩,
    ⟨(some 201), none, .mov (.t 200)⟩,
    ⟨(some 202), some (201, true), .addr (.t 12) 1⟩,
    ⟨(some 203), some (201, true), .load (.t 202) none⟩,
    ⟨(some 204), some (201, true), .addr (.t 14) 1⟩,
    ⟨(some 205), some (201, true), .load (.t 204) none⟩,
    ⟨(some 206), some (201, true), .bin .leq (.t 203) (.t 205)⟩,
    ⟨(some 207), none, .pick (.t 201) (.t 206) (.c (.bool false))⟩,
    ⟨(some 208), none, .mov (.t 207)⟩,
    ⟨(some 209), some (208, true), .mov (.t 18)⟩,
    ⟨(some 210), some (208, true), .mov (.t 16)⟩,
    ⟨(some 211), some (208, true), .bin .eql (.t 209) (.t 210)⟩,
    ⟨(some 212), some (208, true), .mov (.t 211)⟩,
    ⟨(some 213), some (212, false), .mov (.t 18)⟩,
    ⟨(some 214), some (212, false), .bin .eql (.t 213) (.c (.int .i64 3))⟩,
    ⟨(some 215), some (208, true), .pick (.t 212) (.c (.bool true)) (.t 214)⟩,
    ⟨(some 216), none, .pick (.t 208) (.t 215) (.c (.bool false))⟩,
    ⟨(some 217), none, .mov (.t 216)⟩,
    ⟨(some 218), some (217, true), .call 13 []⟩,
    ⟨(some 219), none, .pick (.t 217) (.t 218) (.c (.bool false))⟩,
    ⟨(some 6), none, .mov (.t 219)⟩])
  (.ret))
def tl7_3 : ACode := (.seq (.region [⟨(some 157), none, .load (.t 3) (some 9)⟩,
    ⟨(some 158), none, .mov (.t 2)⟩,
    ⟨(some 159), none, .call 24 [(.t 157), (.t 158)]⟩,
    ⟨(some 156), none, .mov (.t 159)⟩,
    ⟨(some 160), none, .ext (.t 156) 0⟩,
    ⟨(some 161), none, .ext (.t 156) 1⟩,
    ⟨(some 12), none, .new (.agg [(.int .i64 0), (.int .i64 0)]) 2⟩,
    ⟨none, none, .store (.t 12) (.t 160) 2⟩,
    ⟨(some 13), none, .mov (.t 161)⟩])
  (.seq (.region [⟨(some 163), none, .load (.t 7) (some 9)⟩,
    ⟨(some 164), none, .mov (.t 2)⟩,
    ⟨(some 165), none, .call 24 [(.t 163), (.t 164)]⟩,
    ⟨(some 162), none, .mov (.t 165)⟩,
    ⟨(some 166), none, .ext (.t 162) 0⟩,
    ⟨(some 167), none, .ext (.t 162) 1⟩,
    ⟨(some 14), none, .new (.agg [(.int .i64 0), (.int .i64 0)]) 2⟩,
    ⟨none, none, .store (.t 14) (.t 166) 2⟩,
    ⟨(some 15), none, .mov (.t 167)⟩])
  (.seq (.region [⟨(some 169), none, .load (.t 3) (some 9)⟩,
    ⟨(some 170), none, .mov (.t 2)⟩,
    ⟨(some 171), none, .call 26 [(.t 169), (.t 170)]⟩,
    ⟨(some 168), none, .mov (.t 171)⟩,
    ⟨(some 172), none, .ext (.t 168) 0⟩,
    ⟨(some 173), none, .ext (.t 168) 1⟩,
    ⟨(some 16), none, .mov (.t 172)⟩,
    ⟨(some 17), none, .mov (.t 173)⟩])
  (.seq (.region [⟨(some 175), none, .load (.t 7) (some 9)⟩,
    ⟨(some 176), none, .mov (.t 2)⟩,
    ⟨(some 177), none, .call 26 [(.t 175), (.t 176)]⟩,
    ⟨(some 174), none, .mov (.t 177)⟩,
    ⟨(some 178), none, .ext (.t 174) 0⟩,
    ⟨(some 179), none, .ext (.t 174) 1⟩,
    ⟨(some 18), none, .mov (.t 178)⟩,
    ⟨(some 19), none, .mov (.t 179)⟩])
  tl7_4))))
def tl7_2 : ACode := (.seq (.seq (.seq (.frz)
  (.region [⟨(some 124), none, .load (.t 7) (some 9)⟩,
    ⟨(some 125), none, .call 32 [(.t 124)]⟩,
    ⟨(some 126), none, .not (.t 125)⟩]))
  (.cond (.t 126) (.seq (.region [⟨(some 127), none, .call 13 []⟩,
    ⟨(some 6), none, .mov (.t 127)⟩])
  (.ret))
  (.skip)))
  (.seq (.region [⟨(some 129), none, .load (.t 3) (some 9)⟩,
    ⟨(some 130), none, .call 15 [(.t 129)]⟩,
    ⟨(some 128), none, .mov (.t 130)⟩,
    ⟨(some 131), none, .ext (.t 128) 0⟩,
    ⟨(some 132), none, .ext (.t 128) 1⟩,
    ⟨(some 8), none, .mov (.t 131)⟩,
    ⟨(some 9), none, .mov (.t 132)⟩])
  (.seq (.region [⟨(some 134), none, .load (.t 7) (some 9)⟩,
    ⟨(some 135), none, .call 15 [(.t 134)]⟩,
    ⟨(some 133), none, .mov (.t 135)⟩,
    ⟨(some 136), none, .ext (.t 133) 0⟩,
    ⟨(some 137), none, .ext (.t 133) 1⟩,
    ⟨(some 10), none, .mov (.t 136)⟩,
    ⟨(some 11), none, .mov (.t 137)⟩])
  (.seq (.seq (.region [⟨(some 138), none, .mov (.t 9)⟩,
    ⟨(some 139), none, .bin .neq (.t 138) (.c (.int .i64 0))⟩,
    ⟨(some 140), none, .mov (.t 139)⟩,
    ⟨(some 141), some (140, false), .mov (.t 11)⟩,
    ⟨(some 142), some (140, false), .bin .neq (.t 141) (.c (.int .i64 0))⟩,
    ⟨(some 143), none, .pick (.t 140) (.c (.bool true)) (.t 142)⟩,
    ⟨(some 144), none, .mov (.t 143)⟩,
    ⟨(some 145), some (144, false), .mov (.t 8)⟩,
    ⟨(some 146), some (144, false), .bin .lss (.t 145) (.c (.int .i64 0))⟩,
    ⟨(some 147), none, .pick (.t 144) (.c (.bool true)) (.t 146)⟩,
    ⟨(some 148), none, .mov (.t 147)⟩,
    ⟨(some 149), some (148, false), .mov (.t 10)⟩,
    ⟨(some 150), some (148, false), .mov (.t 8)⟩,
    ⟨(some 151), some (148, false), .bin .lss (.t 149) (.t 150)⟩,
    ⟨(some 152), none, .pick (.t 148) (.c (.bool true)) (.t 151)⟩])
  (.cond (.t 152) (.seq (.region [⟨(some 6), none, .mov (.c (.bool false))⟩])
  (.ret))
  (.skip)))
  (.seq (.seq (.region [⟨(some 153), none, .mov (.t 8)⟩,
    ⟨(some 154), none, .bin .eql (.t 153) (.c (.int .i64 0))⟩])
  (.cond (.t 154) (.seq (.region [⟨(some 155), none, .call 13 []⟩,
    ⟨(some 6), none, .mov (.t 155)⟩])
  (.ret))
  (.skip)))
  tl7_3)))))
def tl7_1 : ACode := (.seq (.region [⟨(some 85), none, .addr (.t 3) 8⟩,
    ⟨(some 86), none, .load (.t 85) none⟩,
    ⟨(some 87), none, .addr (.t 4) 1⟩,
    ⟨(some 88), none, .load (.t 87) none⟩,
    ⟨(some 89), none, .bin .add (.t 86) (.t 88)⟩,
    ⟨(some 90), none, .mnx false (.c (.int .i64 3)) (.t 89)⟩,
    ⟨(some 91), none, .addr (.t 7) 8⟩,
    ⟨none, none, .store (.t 91) (.t 90) 1⟩])
  (.seq (.region [⟨(some 92), none, .addr (.t 3) 0⟩,
    ⟨(some 93), none, .addr (.t 92) 0⟩,
    ⟨(some 94), none, .load (.t 93) none⟩,
    ⟨(some 95), none, .addr (.t 4) 2⟩,
    ⟨(some 96), none, .load (.t 95) none⟩,
    ⟨(some 97), none, .bin .sub (.t 94) (.t 96)⟩,
    ⟨(some 98), none, .mnx true (.c (.int .i64 0)) (.t 97)⟩,
    ⟨(some 99), none, .addr (.t 3) 0⟩,
    ⟨(some 100), none, .addr (.t 99) 1⟩,
    ⟨(some 101), none, .load (.t 100) none⟩,
    ⟨(some 102), none, .addr (.t 4) 2⟩,
    ⟨(some 103), none, .load (.t 102) none⟩,
    ⟨(some 104), none, .bin .add (.t 101) (.t 103)⟩,
    ⟨(some 105), none, .mnx false (.c (.int .i64 400)) (.t 104)⟩,
    ⟨(some 106), none, .build [(.int .i64 0), (.int .i64 0)] [(0, 1, (.t 98)), (1, 1, (.t 105))]⟩,
    ⟨(some 107), none, .addr (.t 7) 0⟩,
    ⟨none, none, .store (.t 107) (.t 106) 2⟩])
  (.seq (.region [⟨(some 108), none, .addr (.t 3) 2⟩,
    ⟨(some 109), none, .addr (.t 108) 0⟩,
    ⟨(some 110), none, .load (.t 109) none⟩,
    ⟨(some 111), none, .addr (.t 4) 3⟩,
    ⟨(some 112), none, .load (.t 111) none⟩,
    ⟨(some 113), none, .bin .sub (.t 110) (.t 112)⟩,
    ⟨(some 114), none, .mnx true (.c (.int .i64 0)) (.t 113)⟩,
    ⟨(some 115), none, .addr (.t 3) 2⟩,
    ⟨(some 116), none, .addr (.t 115) 1⟩,
    ⟨(some 117), none, .load (.t 116) none⟩,
    ⟨(some 118), none, .addr (.t 4) 3⟩,
    ⟨(some 119), none, .load (.t 118) none⟩,
    ⟨(some 120), none, .bin .add (.t 117) (.t 119)⟩,
    ⟨(some 121), none, .mnx false (.c (.int .i64 9)) (.t 120)⟩,
    ⟨(some 122), none, .build [(.int .i64 0), (.int .i64 0)] [(0, 1, (.t 114)), (1, 1, (.t 121))]⟩,
    ⟨(some 123), none, .addr (.t 7) 2⟩,
    ⟨none, none, .store (.t 123) (.t 122) 2⟩])
  tl7_2)))
def tl7_0 : ACode := (.seq (.seq (.region [⟨(some 61), none, .addr (.t 4) 0⟩,
    ⟨(some 62), none, .load (.t 61) none⟩,
    ⟨(some 63), none, .bin .geq (.t 62) (.c (.int .i64 0))⟩,
    ⟨(some 64), none, .mov (.t 63)⟩,
    ⟨(some 65), some (64, true), .addr (.t 4) 0⟩,
    ⟨(some 66), some (64, true), .load (.t 65) none⟩,
    ⟨(some 67), some (64, true), .addr (.t 7) 7⟩,
    ⟨(some 68), some (64, true), .load (.t 67) none⟩,
    ⟨(some 69), some (64, true), .len (.t 68)⟩,
    ⟨(some 70), some (64, true), .bin .lss (.t 66) (.t 69)⟩,
    ⟨(some 71), none, .pick (.t 64) (.t 70) (.c (.bool false))⟩])
  (.cond (.t 71) (.region [⟨(some 72), none, .addr (.t 7) 7⟩,
    ⟨(some 73), none, .load (.t 72) none⟩,
    ⟨(some 74), none, .addr (.t 4) 0⟩,
    ⟨(some 75), none, .load (.t 74) none⟩,
    ⟨(some 76), none, .slice (.t 73) none (some (.t 75)) 3⟩,
    ⟨(some 77), none, .addr (.t 3) 7⟩,
    ⟨(some 78), none, .load (.t 77) none⟩,
    ⟨(some 79), none, .addr (.t 4) 0⟩,
    ⟨(some 80), none, .load (.t 79) none⟩,
    ⟨(some 81), none, .bin .add (.t 80) (.c (.int .i64 1))⟩,
    ⟨(some 82), none, .slice (.t 78) (some (.t 81)) none 3⟩,
    ⟨(some 83), none, .app false (.t 76) (.t 82) 39 3 24⟩,
    ⟨(some 84), none, .addr (.t 7) 7⟩,
    ⟨none, none, .store (.t 84) (.t 83) 1⟩])
  (.skip)))
  tl7_1)
theorem cut7 : c7 = .seq (.region [⟨(some 3), none, .box (.t 0) 9⟩,
    ⟨(some 4), none, .box (.t 1) 4⟩,
    ⟨(some 6), none, .mov (.c (.bool false))⟩])
  (.seq (.seq (.region [⟨(some 20), none, .load (.t 3) (some 9)⟩,
    ⟨(some 21), none, .call 32 [(.t 20)]⟩,
    ⟨(some 22), none, .not (.t 21)⟩,
    ⟨(some 23), none, .mov (.t 22)⟩,
    ⟨(some 24), some (23, false), .mov (.t 2)⟩,
    ⟨(some 25), some (23, false), .call 33 [(.t 24)]⟩,
    ⟨(some 26), some (23, false), .not (.t 25)⟩,
    ⟨(some 27), none, .pick (.t 23) (.c (.bool true)) (.t 26)⟩,
    ⟨(some 28), none, .mov (.t 27)⟩,
    ⟨(some 29), some (28, false), .addr (.t 4) 1⟩,
    ⟨(some 30), some (28, false), .load (.t 29) none⟩,
    ⟨(some 31), some (28, false), .bin .lss (.t 30) (.c (.int .i64 0))⟩,
    ⟨(some 32), none, .pick (.t 28) (.c (.bool true)) (.t 31)⟩,
    ⟨(some 33), none, .mov (.t 32)⟩,
    ⟨(some 34), some (33, false), .addr (.t 4) 1⟩,
    ⟨(some 35), some (33, false), .load (.t 34) none⟩,
    ⟨(some 36), some (33, false), .bin .gtr (.t 35) (.c (.int .i64 3))⟩,
    ⟨(some 37), none, .pick (.t 33) (.c (.bool true)) (.t 36)⟩,
    ⟨(some 38), none, .mov (.t 37)⟩,
    ⟨(some 39), some (38, false), .addr (.t 4) 2⟩,
    ⟨(some 40), some (38, false), .load (.t 39) none⟩,
    ⟨(some 41), some (38, false), .bin .lss (.t 40) (.c (.int .i64 0))⟩,
    ⟨(some 42), none, .pick (.t 38) (.c (.bool true)) (.t 41)⟩,
    ⟨(some 43), none, .mov (.t 42)⟩,
    ⟨(some 44), some (43, false), .addr (.t 4) 2⟩,
    ⟨(some 45), some (43, false), .load (.t 44) none⟩,
    ⟨(some 46), some (43, false), .bin .gtr (.t 45) (.c (.int .i64 400))⟩,
    ⟨(some 47), none, .pick (.t 43) (.c (.bool true)) (.t 46)⟩,
    ⟨(some 48), none, .mov (.t 47)⟩,
    ⟨(some 49), some (48, false), .addr (.t 4) 3⟩,
    ⟨(some 50), some (48, false), .load (.t 49) none⟩,
    ⟨(some 51), some (48, false), .bin .lss (.t 50) (.c (.int .i64 0))⟩,
    ⟨(some 52), none, .pick (.t 48) (.c (.bool true)) (.t 51)⟩,
    ⟨(some 53), none, .mov (.t 52)⟩,
    ⟨(some 54), some (53, false), .addr (.t 4) 3⟩,
    ⟨(some 55), some (53, false), .load (.t 54) none⟩,
    ⟨(some 56), some (53, false), .bin .gtr (.t 55) (.c (.int .i64 9))⟩,
    ⟨(some 57), none, .pick (.t 53) (.c (.bool true)) (.t 56)⟩])
  (.cond (.t 57) (.seq (.region [⟨(some 58), none, .call 13 []⟩,
    ⟨(some 6), none, .mov (.t 58)⟩])
  (.ret))
  (.skip)))
  (.seq (.region [⟨(some 59), none, .load (.t 3) (some 9)⟩,
    ⟨(some 60), none, .call 14 [(.t 59)]⟩,
    ⟨(some 7), none, .new (.agg [(.int .i64 0), (.int .i64 0), (.int .i64 0), (.int .i64 0), (.int .i64 0), (.int .i64 0), (.int .i64 0), (.sl [] .tight), (.int .i64 0)]) 9⟩,
    ⟨none, none, .store (.t 7) (.t 60) 9⟩])
  tl7_0)) := rfl
theorem LampLess_run (l : Lm) (n w f d h : Int) : RV ft 7 [encL l, encX n w f d, I64 h] (.bool true) := by
  refine RV_of ft7 rfl ?_
  simp only [cut7, r7]
  have hR := ready_ok l
  cases hr : rdM l
  case false =>
    rw [hr] at hR
    simp only [go_sem, Nat.reduceEqDiff, Nat.reduceAdd, Nat.reduceLT, Nat.reduceLeDiff, reduceIte, XCells, XEta, WB32, WVH_eq hR, true_and, WB13, WVH_eq works_ok]
  obtain ⟨hfar, hok⟩ := rdM_iff hr
  have hv := okL_iff.1 hok
  have h40 := rdM_len hfar
  have hl : l.gs.length < 1073741824 := by omega
  rw [hr] at hR
  have hH := isHourR_ok h
  cases hh : hrR h
  case false =>
    rw [hh] at hH
    simp only [go_sem, Nat.reduceEqDiff, Nat.reduceAdd, Nat.reduceLT, Nat.reduceLeDiff, reduceIte, XCells, XEta, WB32, WVH_eq hR, WB33, WVH_eq hH, true_and, WB13, WVH_eq works_ok]
  rw [hh] at hH
  cases d1 : decide (w < 0)
  case true => simp only [go_sem, Nat.reduceEqDiff, Nat.reduceAdd, Nat.reduceLT, Nat.reduceLeDiff, reduceIte, XCells, XEta, WB32, WVH_eq hR, WB33, WVH_eq hH, true_and, d1, WB13, WVH_eq works_ok]
  cases d2 : decide (3 < w)
  case true => simp only [go_sem, Nat.reduceEqDiff, Nat.reduceAdd, Nat.reduceLT, Nat.reduceLeDiff, reduceIte, XCells, XEta, WB32, WVH_eq hR, WB33, WVH_eq hH, true_and, d1, d2, WB13, WVH_eq works_ok]
  cases d3 : decide (f < 0)
  case true => simp only [go_sem, Nat.reduceEqDiff, Nat.reduceAdd, Nat.reduceLT, Nat.reduceLeDiff, reduceIte, XCells, XEta, WB32, WVH_eq hR, WB33, WVH_eq hH, true_and, d1, d2, d3, WB13, WVH_eq works_ok]
  cases d4 : decide (400 < f)
  case true => simp only [go_sem, Nat.reduceEqDiff, Nat.reduceAdd, Nat.reduceLT, Nat.reduceLeDiff, reduceIte, XCells, XEta, WB32, WVH_eq hR, WB33, WVH_eq hH, true_and, d1, d2, d3, d4, WB13, WVH_eq works_ok]
  cases d5 : decide (d < 0)
  case true => simp only [go_sem, Nat.reduceEqDiff, Nat.reduceAdd, Nat.reduceLT, Nat.reduceLeDiff, reduceIte, XCells, XEta, WB32, WVH_eq hR, WB33, WVH_eq hH, true_and, d1, d2, d3, d4, d5, WB13, WVH_eq works_ok]
  cases d6 : decide (9 < d)
  case true => simp only [go_sem, Nat.reduceEqDiff, Nat.reduceAdd, Nat.reduceLT, Nat.reduceLeDiff, reduceIte, XCells, XEta, WB32, WVH_eq hR, WB33, WVH_eq hH, true_and, d1, d2, d3, d4, d5, d6, WB13, WVH_eq works_ok]
  have w0 := of_decide_eq_false d1; have w1 := of_decide_eq_false d2
  have f0 := of_decide_eq_false d3; have f1 := of_decide_eq_false d4
  have b0 := of_decide_eq_false d5; have b1 := of_decide_eq_false d6
  obtain ⟨h0, h1⟩ := hrR_iff.1 hh
  have hsub := @oL_sub l hv n w f d (by omega) (by omega) (by omega)
  obtain ⟨o, ho⟩ : ∃ o, o = oL l n w f d := ⟨_, rfl⟩
  rw [← ho] at hsub
  have hno : o.no = l.no := by rw [ho]; rfl
  have z : ((0 : Int) != 0) = false := rfl
  have z1 : ((0 : Int) == 0) = true := rfl
  have T4 : ∀ (e : Nat → AV) (bl : List Blk) (tk : List (Nat × Nat)) (i j : Nat) (A B : Sp) (p q : Int), B.lo ≤ A.lo → A.hi ≤ B.hi → (q = p ∨ q = 3) → e 12 = .ptr i 0 0 → e 13 = I64 0 → e 14 = .ptr j 0 0 → e 15 = I64 0 → e 16 = I64 p → e 17 = I64 0 → e 18 = I64 q → e 19 = I64 0 → bl[i]? = some (.live [encS A] 2) → bl[j]? = some (.live [encS B] 2) → W ft tl7_4 ⟨e, ⟨bl, tk⟩⟩ (Fin [.t 6] fun u m => Ab.snap m dep u = .bool true) := by
    intro e bl tk i j A B p q s1 s2 s3 g12 g13 g14 g15 g16 g17 g18 g19 hi hj
    simp only [tl7_4]
    have c4 : decide (B.lo ≤ A.lo) = true := decide_eq_true s1
    have c5 : decide (A.hi ≤ B.hi) = true := decide_eq_true s2
    rcases s3 with s3 | s3
    · subst s3
      simp only [go_sem, Nat.reduceEqDiff, Nat.reduceAdd, Nat.reduceLT, Nat.reduceLeDiff, reduceIte, g12, g13, g14, g15, g16, g17, g18, g19, hi, hj, SCells, z1, c4, c5, beq_self_eq_true, WB13, WVH_eq works_ok, true_and]
    · subst s3
      cases hpq : ((3 : Int) == p)
      · simp only [go_sem, Nat.reduceEqDiff, Nat.reduceAdd, Nat.reduceLT, Nat.reduceLeDiff, reduceIte, g12, g13, g14, g15, g16, g17, g18, g19, hi, hj, SCells, z1, c4, c5, hpq, show ((3 : Int) == 3) = true from rfl, WB13, WVH_eq works_ok, true_and]
      · simp only [go_sem, Nat.reduceEqDiff, Nat.reduceAdd, Nat.reduceLT, Nat.reduceLeDiff, reduceIte, g12, g13, g14, g15, g16, g17, g18, g19, hi, hj, SCells, z1, c4, c5, hpq, WB13, WVH_eq works_ok, true_and]
  have T3 : ∀ (e : Nat → AV) (bl : List Blk) (tk : List (Nat × Nat)), okL o = true → truM l ≠ [] → e 2 = I64 h → e 3 = .pv (encL l) 0 → e 7 = .pv (encL o) 0 → W ft tl7_3 ⟨e, ⟨bl, tk⟩⟩ (Fin [.t 6] fun u m => Ab.snap m dep u = .bool true) := by
    intro e bl tk hoo hne k2 k3 k7
    simp only [tl7_3]
    have hvo := okL_iff.1 hoo
    have hlo : o.gs.length < 1073741824 := by have := hvo.gl; omega
    have hneo : truM o ≠ [] := fun he => by
      obtain ⟨x, hx⟩ := List.exists_mem_of_ne_nil _ hne
      have := hsub hx
      rw [he] at this; cases this
    have q1 : khM l h = 0 := khM_0.2 ⟨hv, ⟨h0, h1⟩, hne⟩
    have q2 : khM o h = 0 := khM_0.2 ⟨hvo, ⟨h0, h1⟩, hneo⟩
    have hA := At_ok l h hl
    have hB := At_ok o h hlo
    have hK := Keeps_ok l h hl
    have hP := Keeps_ok o h hlo
    obtain ⟨s1, s2⟩ := at_sub q1 q2 (fun x hx => hsub hx)
    have s3 := kp_sub hno q1 q2 (fun x hx => hsub hx)
    rw [q1] at hA hK
    rw [q2] at hB hP
    generalize atM l h = A at hA s1 s2
    generalize atM o h = B at hB s1 s2
    generalize kpM l h = p at hK s3
    generalize kpM o h = q at hP s3
    have hbl : ∀ (x y : Blk), (bl ++ [x] ++ [y]).length = bl.length + 2 := fun x y => by simp
    have hbl1 : ∀ (x : Blk), (bl ++ [x]).length = bl.length + 1 := fun x => by simp
    simp only [go_sem, Nat.reduceEqDiff, Nat.reduceAdd, Nat.reduceLT, Nat.reduceLeDiff, reduceIte, k2, k3, k7, LCells, LEta, SCells, SEta, WB24, WVH_eq hA, WVH_eq hB, WB26, WVH_eq hK, WVH_eq hP, hbl, hbl1, get_last2, get_last2', set_last2', true_and]
    exact T4 _ _ _ bl.length (bl.length + 1) A B p q s1 s2 s3 (by simp only [go_sem, Nat.reduceEqDiff, Nat.reduceAdd, Nat.reduceLT, Nat.reduceLeDiff, reduceIte]) (by simp only [go_sem, Nat.reduceEqDiff, Nat.reduceAdd, Nat.reduceLT, Nat.reduceLeDiff, reduceIte]) (by simp only [go_sem, Nat.reduceEqDiff, Nat.reduceAdd, Nat.reduceLT, Nat.reduceLeDiff, reduceIte]) (by simp only [go_sem, Nat.reduceEqDiff, Nat.reduceAdd, Nat.reduceLT, Nat.reduceLeDiff, reduceIte]) (by simp only [go_sem, Nat.reduceEqDiff, Nat.reduceAdd, Nat.reduceLT, Nat.reduceLeDiff, reduceIte]) (by simp only [go_sem, Nat.reduceEqDiff, Nat.reduceAdd, Nat.reduceLT, Nat.reduceLeDiff, reduceIte]) (by simp only [go_sem, Nat.reduceEqDiff, Nat.reduceAdd, Nat.reduceLT, Nat.reduceLeDiff, reduceIte]) (by simp only [go_sem, Nat.reduceEqDiff, Nat.reduceAdd, Nat.reduceLT, Nat.reduceLeDiff, reduceIte]) (get_last2 _ _ _) (get_last2' _ _ _)
  have T2 : ∀ (e : Nat → AV) (m : Mem), e 2 = I64 h → Ab.snap m 12 (e 3) = .pv (encL l) 0 → Ab.snap m 12 (e 7) = .pv (encL o) 0 → W ft tl7_2 ⟨e, m⟩ (Fin [.t 6] fun u m => Ab.snap m dep u = .bool true) := by
    intro e m g2 g3 g7
    rw [tl7_2, W_seq, W_seq, W_seq]
    refine W_frz_of fun e' he m' => ?_
    have k2 := he 2
    have k3 := he 3
    have k7 := he 7
    simp only [dep_eq] at k2 k3 k7
    simp only [g2, snap_int] at k2
    rw [g3] at k3
    rw [g7] at k7
    clear he g2 g3 g7
    obtain ⟨bl, tk⟩ := m'
    have hRo := ready_ok o
    cases hro : rdM o
    case false =>
      rw [hro] at hRo
      simp only [go_sem, Nat.reduceEqDiff, Nat.reduceAdd, Nat.reduceLT, Nat.reduceLeDiff, reduceIte, k2, k3, k7, LCells, LEta, WB32, WVH_eq hRo, true_and, WB13, WVH_eq works_ok]
    rw [hro] at hRo
    obtain ⟨hfo, hoo⟩ := rdM_iff hro
    have hvo := okL_iff.1 hoo
    have hlo : o.gs.length < 1073741824 := by have := hvo.gl; omega
    have hM := Many_ok l hl
    have hMo := Many_ok o hlo
    rw [if_pos hok, if_pos hok] at hM
    rw [if_pos hoo, if_pos hoo] at hMo
    have hle := len_le _ _ (truM_nodup l) (fun x hx => hsub hx)
    have c1 : decide (((truM l).length : Int) < 0) = false := decide_eq_false (by omega)
    have c2 : decide (((truM o).length : Int) < ((truM l).length : Int)) = false := decide_eq_false (by omega)
    have c3 := isEmpty_len (truM l)
    cases hem : (truM l).isEmpty
    case true =>
      rw [hem] at c3
      simp only [go_sem, Nat.reduceEqDiff, Nat.reduceAdd, Nat.reduceLT, Nat.reduceLeDiff, reduceIte, k2, k3, k7, LCells, LEta, WB32, WVH_eq hRo, WB15, WVH_eq hM, WVH_eq hMo, z, c1, c2, c3, true_and, WB13, WVH_eq works_ok]
    rw [hem] at c3
    have hne : truM l ≠ [] := fun he => by rw [he] at hem; cases hem
    have hneo : truM o ≠ [] := fun he => by
      obtain ⟨x, hx⟩ := List.exists_mem_of_ne_nil _ hne
      have := hsub hx
      rw [he] at this; cases this
    simp only [go_sem, Nat.reduceEqDiff, Nat.reduceAdd, Nat.reduceLT, Nat.reduceLeDiff, reduceIte, k2, k3, k7, LCells, LEta, SCells, SEta, WB32, WVH_eq hRo, WB15, WVH_eq hM, WVH_eq hMo, z, c1, c2, c3, true_and]
    exact T3 _ _ _ hoo hne (by simp only [go_sem, Nat.reduceEqDiff, Nat.reduceAdd, Nat.reduceLT, Nat.reduceLeDiff, reduceIte, k2]) (by simp only [go_sem, Nat.reduceEqDiff, Nat.reduceAdd, Nat.reduceLT, Nat.reduceLeDiff, reduceIte, k3]) (by simp only [go_sem, Nat.reduceEqDiff, Nat.reduceAdd, Nat.reduceLT, Nat.reduceLeDiff, reduceIte, k7])
  have u0 := hv.u0; have u1 := hv.u1; have u2 := hv.u2; have dd0 := hv.d0; have dd1 := hv.d1; have dd2 := hv.d2; have ww0 := hv.w0; have ww1 := hv.w1
  have x1 : IntKind.i64.wrap (l.wr + w) = l.wr + w := wrap_i64 _ (by omega) (by omega)
  have x2 : IntKind.i64.wrap (l.fu.lo - f) = l.fu.lo - f := wrap_i64 _ (by omega) (by omega)
  have x3 : IntKind.i64.wrap (l.fu.hi + f) = l.fu.hi + f := wrap_i64 _ (by omega) (by omega)
  have x4 : IntKind.i64.wrap (l.fd.lo - d) = l.fd.lo - d := wrap_i64 _ (by omega) (by omega)
  have x5 : IntKind.i64.wrap (l.fd.hi + d) = l.fd.hi + d := wrap_i64 _ (by omega) (by omega)
  have T1 : ∀ (e : Nat → AV) (bl : List Blk) (tk : List (Nat × Nat)) (k : Nat) (G : AV), e 2 = I64 h → e 3 = .ptr 0 0 0 → e 4 = .ptr 1 0 0 → e 7 = .ptr k 0 0 → 2 ≤ k → bl[0]? = some (.live [encL l] 9) → bl[1]? = some (.live [encX n w f d] 4) → bl[k]? = some (.live [encLG l G] 9) →
      G.cells = [G] → G.solid = true → G.isAgg = false → (∀ bl' : List Blk, (∀ j, j ≠ k → bl'[j]? = bl[j]?) → ∀ q, Ab.snap ⟨bl', tk⟩ (q + 4) G = encGs (delG l.gs n)) → W ft tl7_1 ⟨e, ⟨bl, tk⟩⟩ (Fin [.t 6] fun u m => Ab.snap m dep u = .bool true) := by
    intro e bl tk k G g2 g3 g4 g7 hk hb0 hb1 hbk hc hso hag hsn
    have hkl := (List.getElem?_eq_some_iff.1 hbk).1
    have r0 : ∀ v, (bl.set k v)[0]? = some (.live [encL l] 9) := fun v => by rw [List.getElem?_set_ne (by omega)]; exact hb0
    have r1 : ∀ v, (bl.set k v)[1]? = some (.live [encX n w f d] 4) := fun v => by rw [List.getElem?_set_ne (by omega)]; exact hb1
    have rk : ∀ v, (bl.set k v)[k]? = some v := fun v => by simp [hkl]
    have rs : ∀ v u, (bl.set k v).set k u = bl.set k u := fun v u => List.set_set ..
    simp only [tl7_1]
    simp only [go_sem, Nat.reduceEqDiff, Nat.reduceAdd, Nat.reduceLT, Nat.reduceLeDiff, reduceIte, g2, g3, g4, g7, hb0, hb1, hbk, r0, r1, rk, rs, LCells, XCells, SCells, x1, x2, x3, x4, x5, wLG8, hc, hso, hag, encLG_cells, show ((2 : Nat) != 1) = true from rfl]
    have hE : AV.agg [I64 (max 0 (l.fu.lo - f)), I64 (min 400 (l.fu.hi + f)), I64 (max 0 (l.fd.lo - d)), I64 (min 9 (l.fd.hi + d)), I64 l.no.lo, I64 l.no.hi, I64 l.ra, G, I64 (min 3 (l.wr + w))] = encLG o G := by rw [ho]; rfl
    rw [hE]
    refine T2 _ _ (by simp only [go_sem, Nat.reduceEqDiff, Nat.reduceAdd, Nat.reduceLT, Nat.reduceLeDiff, reduceIte, g2]) ?_ ?_
    · rw [show ∀ e' : Nat → AV, e' 3 = .ptr 0 0 0 → Ab.snap ⟨bl.set k (.live [encLG o G] 9), tk⟩ 12 (e' 3) = .pv (encL l) 0 from fun e' h => by rw [h, snap_box (r0 _), snL _ 7]]
      simp only [go_sem, Nat.reduceEqDiff, Nat.reduceAdd, Nat.reduceLT, Nat.reduceLeDiff, reduceIte, g3]
    · rw [show ∀ e' : Nat → AV, e' 7 = .ptr k 0 0 → Ab.snap ⟨bl.set k (.live [encLG o G] 9), tk⟩ 12 (e' 7) = .pv (encL o) 0 from fun e' h => by
        rw [h, snap_box (rk _), snLG _ 9 o G (delG l.gs n) (hsn _ (fun j hj => List.getElem?_set_ne (fun h => hj h.symm)) 6), ho]; rfl]
      simp only [go_sem, Nat.reduceEqDiff, Nat.reduceAdd, Nat.reduceLT, Nat.reduceLeDiff, reduceIte, g7]
  have hdn : ∀ hn : ¬(0 ≤ n ∧ n < (l.gs.length : Int)), delG l.gs n = l.gs := fun hn => if_neg hn
  have c0 : ∀ hn : ¬(0 ≤ n ∧ n < (l.gs.length : Int)), decide (0 ≤ n) = false ∨ (decide (0 ≤ n) = true ∧ decide (n < (l.gs.length : Int)) = false) := fun hn => by
    by_cases hp : 0 ≤ n
    · exact .inr ⟨decide_eq_true hp, decide_eq_false (by omega)⟩
    · exact .inl (decide_eq_false hp)
  simp only [go_sem, Nat.reduceEqDiff, Nat.reduceAdd, Nat.reduceLT, Nat.reduceLeDiff, reduceIte, XCells, XEta, WB32, WVH_eq hR, WB33, WVH_eq hH, true_and, d1, d2, d3, d4, d5, d6, WB14]
  refine Copy_run l (by omega) _ (fun he => ?_) (fun he => ?_)
  · simp only [go_sem, Nat.reduceEqDiff, Nat.reduceAdd, Nat.reduceLT, Nat.reduceLeDiff, reduceIte, join_c0, shC0 _ _ 8, true_and, encLG_cells, encLG_eta]
    have hn : ¬(0 ≤ n ∧ n < (l.gs.length : Int)) := fun h => by rw [he, List.length_nil] at h; omega
    have hl0 : (l.gs.length : Int) = 0 := by rw [he]; rfl
    simp only [tl7_0]
    rcases c0 hn with c0 | ⟨c0, c1⟩
    · simp only [go_sem, Nat.reduceEqDiff, Nat.reduceAdd, Nat.reduceLT, Nat.reduceLeDiff, reduceIte, XCells, LCells, encLG_cells, c0]
      exact T1 _ _ _ 5 (.sl [] .tight) (by simp only [go_sem, Nat.reduceEqDiff, Nat.reduceAdd, Nat.reduceLT, Nat.reduceLeDiff, reduceIte]) (by simp only [go_sem, Nat.reduceEqDiff, Nat.reduceAdd, Nat.reduceLT, Nat.reduceLeDiff, reduceIte]) (by simp only [go_sem, Nat.reduceEqDiff, Nat.reduceAdd, Nat.reduceLT, Nat.reduceLeDiff, reduceIte]) (by simp only [go_sem, Nat.reduceEqDiff, Nat.reduceAdd, Nat.reduceLT, Nat.reduceLeDiff, reduceIte]) (by omega) rfl rfl rfl rfl rfl rfl (fun bl' _ q => by rw [hdn hn, he]; rfl)
    · rw [hl0] at c1
      simp only [go_sem, Nat.reduceEqDiff, Nat.reduceAdd, Nat.reduceLT, Nat.reduceLeDiff, reduceIte, XCells, LCells, encLG_cells, c0, c1, lenAt_sl, show ((0 : Nat) : Int) = 0 from rfl]
      exact T1 _ _ _ 5 (.sl [] .tight) (by simp only [go_sem, Nat.reduceEqDiff, Nat.reduceAdd, Nat.reduceLT, Nat.reduceLeDiff, reduceIte]) (by simp only [go_sem, Nat.reduceEqDiff, Nat.reduceAdd, Nat.reduceLT, Nat.reduceLeDiff, reduceIte]) (by simp only [go_sem, Nat.reduceEqDiff, Nat.reduceAdd, Nat.reduceLT, Nat.reduceLeDiff, reduceIte]) (by simp only [go_sem, Nat.reduceEqDiff, Nat.reduceAdd, Nat.reduceLT, Nat.reduceLeDiff, reduceIte]) (by omega) rfl rfl rfl rfl rfl rfl (fun bl' _ q => by rw [hdn hn, he]; rfl)
  · simp only [go_sem, Nat.reduceEqDiff, Nat.reduceAdd, Nat.reduceLT, Nat.reduceLeDiff, reduceIte, join_c1, shC1 _ _ 8, true_and, encLG_cells, encLG_eta]
    simp only [tl7_0]
    by_cases hn : 0 ≤ n ∧ n < (l.gs.length : Int)
    case neg =>
      have hsn : ∀ bl' : List Blk, (∀ j, j ≠ 6 → bl'[j]? = ([Blk.live [encL l] 9, .live [encX n w f d] 4, .live [encL l] 9, .live [encLG l (.ref 5 0 l.gs.length)] 9, .live [encLG l (.ref 5 0 l.gs.length)] 9, .live (l.gs.map encG) 3, .live [encLG l (.ref 5 0 l.gs.length)] 9])[j]?) → ∀ q, Ab.snap ⟨bl', []⟩ (q + 4) (.ref 5 0 l.gs.length) = encGs (delG l.gs n) := fun bl' hb q => by
        rw [hdn hn]
        exact sn_ref (hb 5 (by omega)) (by rw [List.length_map]; exact Nat.le_refl _) (by rw [List.take_of_length_le (by rw [List.length_map]; exact Nat.le_refl _)]) (q + 1)
      rcases c0 hn with c0 | ⟨c0, c1⟩
      · simp only [go_sem, Nat.reduceEqDiff, Nat.reduceAdd, Nat.reduceLT, Nat.reduceLeDiff, reduceIte, XCells, LCells, encLG_cells, c0]
        exact T1 _ _ _ 6 (.ref 5 0 l.gs.length) (by simp only [go_sem, Nat.reduceEqDiff, Nat.reduceAdd, Nat.reduceLT, Nat.reduceLeDiff, reduceIte]) (by simp only [go_sem, Nat.reduceEqDiff, Nat.reduceAdd, Nat.reduceLT, Nat.reduceLeDiff, reduceIte]) (by simp only [go_sem, Nat.reduceEqDiff, Nat.reduceAdd, Nat.reduceLT, Nat.reduceLeDiff, reduceIte]) (by simp only [go_sem, Nat.reduceEqDiff, Nat.reduceAdd, Nat.reduceLT, Nat.reduceLeDiff, reduceIte]) (by omega) rfl rfl rfl rfl rfl rfl hsn
      · simp only [go_sem, Nat.reduceEqDiff, Nat.reduceAdd, Nat.reduceLT, Nat.reduceLeDiff, reduceIte, XCells, LCells, encLG_cells, c0, c1]
        exact T1 _ _ _ 6 (.ref 5 0 l.gs.length) (by simp only [go_sem, Nat.reduceEqDiff, Nat.reduceAdd, Nat.reduceLT, Nat.reduceLeDiff, reduceIte]) (by simp only [go_sem, Nat.reduceEqDiff, Nat.reduceAdd, Nat.reduceLT, Nat.reduceLeDiff, reduceIte]) (by simp only [go_sem, Nat.reduceEqDiff, Nat.reduceAdd, Nat.reduceLT, Nat.reduceLeDiff, reduceIte]) (by simp only [go_sem, Nat.reduceEqDiff, Nat.reduceAdd, Nat.reduceLT, Nat.reduceLeDiff, reduceIte]) (by omega) rfl rfl rfl rfl rfl rfl hsn
    obtain ⟨i, rfl⟩ : ∃ i : Nat, n = (i : Int) := ⟨n.toNat, by omega⟩
    have hi : i < l.gs.length := by omega
    have c1 : decide ((0 : Int) ≤ (i : Int)) = true := decide_eq_true (by omega)
    have c2 : decide ((i : Int) < (l.gs.length : Int)) = true := decide_eq_true (by omega)
    have hsz : lsz ⟨[Blk.live [encL l] 9, .live [encX (i : Int) w f d] 4, .live [encL l] 9, .live [encLG l (.ref 5 0 l.gs.length)] 9, .live [encLG l (.ref 5 0 l.gs.length)] 9, .live (l.gs.map encG) 3, .live [encLG l (.ref 5 0 l.gs.length)] 9], []⟩ 5 = some 3 := rfl
    have hs1 : ∀ m : Mem, lsz m 5 = some 3 → sliceAt m (.ref 5 0 l.gs.length) Option.none (some (I64 (i : Int))) 3 = some (.ref 5 0 i) := fun m hm => by
      simp only [sliceAt, hm, if_true, bounds_ns]
      rw [if_pos ⟨by omega, by omega, by omega⟩]
      simp
    have hs2 : ∀ m : Mem, sliceAt m (encGs l.gs) (some (I64 ((i + 1 : Nat) : Int))) Option.none 3 = some (.sl ((l.gs.drop (i + 1)).map encG) .unk) := fun m => by
      unfold encGs
      rw [sliceAt_sl, Gs_hd, if_pos rfl, bounds_sn, if_pos ⟨by omega, by rw [List.length_map]; omega, by omega⟩, Option.map_some, List.length_map, Int.toNat_natCast, sltk_unk, ← List.map_drop, List.take_of_length_le (by simp)]
    have ha : ∀ (b0 b1 b2 b3 b4 b6 : Blk) (T by' : Nat), appendAt ⟨[b0, b1, b2, b3, b4, .live (l.gs.map encG) 3, b6], []⟩ false (.ref 5 0 i) (.sl ((l.gs.drop (i + 1)).map encG) .unk) T 3 by' = some (.ref 5 0 (i + (l.gs.drop (i + 1)).length), ⟨[b0, b1, b2, b3, b4, .live ((l.gs.map encG).take i ++ (l.gs.drop (i + 1)).map encG ++ (l.gs.map encG).drop (i + (l.gs.drop (i + 1)).length)) 3, b6], []⟩) := fun b0 b1 b2 b3 b4 b6 T by' => by
      simp only [appendAt, Mem.elems, Gs_hd, List.getElem?_cons_succ, List.getElem?_cons_zero, List.length_map]
      rw [if_neg (by decide), if_neg (by decide), if_pos ⟨trivial, by rw [List.length_drop]; omega⟩]
      rfl
    simp only [go_sem, Nat.reduceEqDiff, Nat.reduceAdd, Nat.reduceLT, Nat.reduceLeDiff, reduceIte, XCells, LCells, encLG_cells, c1, c2, wrap_n1 i (by omega), hsz, hs1 _ hsz, hs2, ha, wLG7, Option.map_some]
    exact T1 _ _ _ 6 (.ref 5 0 (i + (l.gs.drop (i + 1)).length)) (by simp only [go_sem, Nat.reduceEqDiff, Nat.reduceAdd, Nat.reduceLT, Nat.reduceLeDiff, reduceIte]) (by simp only [go_sem, Nat.reduceEqDiff, Nat.reduceAdd, Nat.reduceLT, Nat.reduceLeDiff, reduceIte]) (by simp only [go_sem, Nat.reduceEqDiff, Nat.reduceAdd, Nat.reduceLT, Nat.reduceLeDiff, reduceIte]) (by simp only [go_sem, Nat.reduceEqDiff, Nat.reduceAdd, Nat.reduceLT, Nat.reduceLeDiff, reduceIte]) (by omega) rfl rfl rfl rfl rfl rfl (fun bl' hb q => by
      have hd : delG l.gs (i : Int) = l.gs.take i ++ l.gs.drop (i + 1) := by
        unfold delG; rw [if_pos ⟨by omega, by omega⟩]; rfl
      rw [hd]
      refine sn_ref (hb 5 (by omega)) ?_ ?_ (q + 1)
      · simp only [List.length_append, List.length_map, List.length_take, List.length_drop]; omega
      · rw [List.take_append_of_le_length (by simp only [List.length_append, List.length_map, List.length_take, List.length_drop]; omega), List.take_of_length_le (by simp only [List.length_append, List.length_map, List.length_take, List.length_drop]; omega), ← List.map_take, ← List.map_append])
end Go.Ab.T
end
