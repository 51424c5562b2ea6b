/-
  A part of the proofs over this seat.
  (The texts KyK6 KyM3 KyK7 KyK8 KyK9, one behind the other.)
-/
import Derived.Test.YtedkegliicileaaE3
set_option linter.unusedSimpArgs false
set_option linter.unusedVariables false
set_option linter.unusedSectionVars false
section
namespace Go.Ab.T
set_option maxRecDepth 8000
set_option maxHeartbeats 4000000
/-! ### A slice that a function builds by appending -/
def acV (es : List AV) : AV := .sl es (if es.isEmpty then .tight else .at 0)
def acT (T : Nat) (es : List AV) : List (Nat × Nat) := if es.isEmpty then [] else [(es.length, T)]
theorem ac_app {es : List AV} {y : AV} {T sz bytes : Nat} (bl : List Blk) (w : Tk) (hs : ∀ e ∈ es, e.cells.length = sz) (hy : y.cells.length = sz) (hl : (es.length + 1) * (bytes + 1) ≤ limit) :
    appendAt ⟨bl, acT T es⟩ false (acV es) (.sl [y] w) T sz bytes = some (acV (es ++ [y]), ⟨bl, acT T (es ++ [y])⟩) := by
  have h1 : hdSz [y] sz = true := by simp [hdSz, hy]
  have h2 : hdSz es sz = true := by
    cases es with
    | nil => rfl
    | cons e r => simp [hdSz, hs e (by simp)]
  cases es with
  | nil => simp [appendAt, Mem.elems, acV, acT, appTk, hdSz, hy]; simpa using hl
  | cons e r =>
    simp only [List.length_cons] at hl
    simp [appendAt, Mem.elems, acV, acT, appTk, h1, h2]
    omega
theorem acE_idx (m : Mem) {l : List Ev} {k : Nat} {x : Ev} (h : l[k]? = some x) : idxAt m (acV (l.map encE)) (I64 (k : Int)) 5 = some (.pv (encE x) 0) := by
  unfold acV
  rw [idxAt_sl, if_pos (by omega), Int.toNat_natCast, List.getElem?_map, h]; rfl
theorem ac_cells (es : List AV) : (acV es).cells = [acV es] := rfl
theorem ac_solid (es : List AV) : (acV es).solid = true := rfl
theorem ac_snap (m : Mem) (q : Nat) (es : List AV) : snap m (q + 1) (acV es) = .sl (es.map (snap m q)) .unk := rfl
theorem acE_app (bl : List Blk) (out : List Ev) (e : Ev) (w : Tk) (hl : out.length ≤ 1000) : appendAt ⟨bl, acT 42 (out.map encE)⟩ false (acV (out.map encE)) (.sl [encE e] w) 42 5 40 = some (acV ((out ++ [e]).map encE), ⟨bl, acT 42 ((out ++ [e]).map encE)⟩) := by
  have := ac_app (es := out.map encE) (y := encE e) (T := 42) (sz := 5) (bytes := 40) bl w (fun x hx => by obtain ⟨y, _, rfl⟩ := List.mem_map.1 hx; rfl) rfl (by rw [List.length_map]; unfold limit; omega)
  rw [this]; simp
theorem zip_snoc {α β : Type} {l : List α} {o : List β} {k : Nat} {x : α} {y : β} (hk : l[k]? = some x) (ho : o.length = k) : (l.take (k + 1)).zip (o ++ [y]) = (l.take k).zip o ++ [(x, y)] := by
  rw [take_snoc hk, List.zip_append (by rw [List.length_take, ho]; have := (List.getElem?_eq_some_iff.1 hk).1; omega)]
  rfl
theorem Run_ok (h : Hs) (hH : HV h) (l : List Sl) (rs cs : List Int) (rate : Int) (hl : l.length ≤ 40) (l1 : rs.length = l.length) (l2 : cs.length = l.length) (hr0 : 1 ≤ rate) (hr1 : rate ≤ 100) (hI : ∀ x ∈ mkIts l rs cs, IB x) :
    RV ft 18 [encH h, encSs l, encX rs cs rate] (encEs (sim h.early rate h.walk (mkIts l rs cs) zeroI zeroI)) := by
  refine RV_of ft18 rfl ?_
  simp only [c18, r18]
  have hlen := mkIts_len l rs cs l1 l2
  obtain ⟨its, hits⟩ : ∃ its, its = mkIts l rs cs := ⟨_, rfl⟩
  rw [← hits] at hI hlen ⊢
  simp only [go_sem, Nat.reduceEqDiff, Nat.reduceAdd, Nat.reduceLT, Nat.reduceLeDiff, reduceIte, and_self, decide_true, decide_false, beq_self_eq_true, HCells, XCells, solidI, cellsI]
  refine WL_inv (α := Nat × List It × List Ev × (Int → Int) × (Int → Int)) (fun q e mm => e 1 = encSs l ∧ e 3 = .ptr 0 0 0 ∧ e 5 = .ptr 1 0 0 ∧ e 7 = acV (q.2.2.1.map encE) ∧ e 8 = I64 q.1 ∧ its.drop q.1 = q.2.1 ∧ q.2.2.1.length = q.1 ∧
      q.2.2.1 ++ sim h.early rate h.walk q.2.1 q.2.2.2.1 q.2.2.2.2 = sim h.early rate h.walk its zeroI zeroI ∧ Back h.walk ((l.take q.1).zip q.2.2.1) q.2.2.2.1 q.2.2.2.2 ∧ Bd (2000 + 1600 * q.1) q.2.2.2.1 ∧ Bd (2000 + 1600 * q.1) q.2.2.2.2 ∧
      (∀ ev ∈ q.2.2.1, 0 ≤ ev.ready ∧ ev.ready ≤ 2000 + 1600 * q.1) ∧ ∃ bl, mm = ⟨bl, acT 42 (q.2.2.1.map encE)⟩ ∧ bl[0]? = some (.live [encH h] 8) ∧ bl[1]? = some (.live [encX rs cs rate] 3)) (fun q => q.2.1.length) (0, its, [], zeroI, zeroI) ?_ ?_
  · simp only [go_sem, Nat.reduceEqDiff, Nat.reduceAdd, Nat.reduceLT, Nat.reduceLeDiff, reduceIte, and_self, decide_true, decide_false, beq_self_eq_true]
    exact ⟨trivial, trivial, trivial, rfl, rfl, trivial, trivial, trivial, Back_nil _, Bd_zero (by omega), Bd_zero (by omega), fun ev hev => by simp at hev, _, rfl, rfl, rfl⟩
  rintro ⟨k, xs, out, rd, id⟩ e m ⟨g1, g3, g5, g7, g8, hd, ho, hsim, hB, hb1, hb2, hev, bl, rfl, b0, b1⟩
  dsimp only at g7 g8 hd ho hsim hB hb1 hb2 hev
  cases xs with
  | nil =>
    have := drop_nil hd
    rw [hlen] at this
    simp only [go_sem, Nat.reduceEqDiff, Nat.reduceAdd, Nat.reduceLT, Nat.reduceLeDiff, reduceIte, and_self, decide_true, decide_false, beq_self_eq_true, g1, g3, g5, g7, g8, Ss_len, dec_ge this]
    rw [← hsim]
    simp only [sim, List.append_nil]
    exact (snEst _ _ _ _).symm ▸ rfl
  | cons x xs =>
    obtain ⟨hk, hd2, hlt⟩ := drop_cons hd
    rw [hlen] at hlt
    obtain ⟨s, hs⟩ : ∃ s, l[k]? = some s := ⟨_, List.getElem?_eq_getElem hlt⟩
    obtain ⟨r, hr⟩ : ∃ r, rs[k]? = some r := ⟨_, List.getElem?_eq_getElem (by omega)⟩
    obtain ⟨c, hc⟩ : ∃ c, cs[k]? = some c := ⟨_, List.getElem?_eq_getElem (by omega)⟩
    have hx : x = ⟨s, r, c⟩ := by
      have := mkIts_get l rs cs k s r c hs hr hc
      rw [← hits, hk] at this
      cases this; rfl
    have hx' := hI x (List.mem_of_getElem? hk)
    subst hx
    obtain ⟨i1, i2, i3, i4, i5, i6, i7, i8⟩ := hx'
    dsimp only at i1 i2 i3 i4 i5 i6 i7 i8
    have e0 := hH.e0
    have e1 := hH.e1
    have hw0 := hH.w0
    have hw1 := hH.w1
    have w1 : IntKind.i64.wrap (s.bg - h.early) = s.bg - h.early := wrap_i64 _ (by omega) (by omega)
    have hco : max 0 (s.bg - h.early) = comeOf h.early s := rfl
    have hcb : 0 ≤ comeOf h.early s ∧ comeOf h.early s ≤ s.bg := by unfold comeOf; omega
    obtain ⟨pr, hpr⟩ : ∃ pr, pr = (l.take k).zip out := ⟨_, rfl⟩
    rw [← hpr] at hB
    have hprl : pr.length = k := by rw [hpr, List.length_zip, List.length_take, ho]; omega
    have hb9 : ∀ (B : Blk), (bl ++ [Blk.live [encS s] 6] ++ [B])[bl.length]? = some (.live [encS s] 6) := fun B => get_app1 (get_last bl _) B
    simp only [go_sem, Nat.reduceEqDiff, Nat.reduceAdd, Nat.reduceLT, Nat.reduceLeDiff, reduceIte, and_self, decide_true, decide_false, beq_self_eq_true, g1, g3, g5, g7, g8, Ss_len, dec_lt hlt, Ss_idx _ hs, SCells, SEta, get_last, set_last, get_app1 b0, get_app1 b1, hb9, get_app1 (get_app1 b0 _), HCells, w1, hco]
    refine WL_inv (α := Nat) (fun n e mm => e 1 = encSs l ∧ e 3 = .ptr 0 0 0 ∧ e 5 = .ptr 1 0 0 ∧ e 7 = acV (out.map encE) ∧ e 8 = I64 k ∧ e 9 = .ptr bl.length 0 0 ∧ e 10 = .ptr (bl ++ [Blk.live [encS s] 6]).length 0 0 ∧
        e 11 = I64 (fT h.walk s.team (pr.take n)) ∧ e 12 = I64 n ∧ n ≤ k ∧ mm = ⟨bl ++ [.live [encS s] 6] ++ [.live [.agg [I64 (fE s.screen (comeOf h.early s) (pr.take n)), I64 0, I64 0, I64 0, I64 0]] 5], acT 42 (out.map encE)⟩) (fun n => k - n) 0 ?_ ?_
    · simp only [go_sem, Nat.reduceEqDiff, Nat.reduceAdd, Nat.reduceLT, Nat.reduceLeDiff, reduceIte, and_self, decide_true, decide_false, beq_self_eq_true, g1, g3, g5, g7, g8, List.append_assoc]
      exact ⟨trivial, trivial, trivial, trivial, trivial, trivial, trivial, rfl, rfl, Nat.zero_le _, rfl⟩
    clear g1 g3 g5 g7 g8 e
    rintro n e mm ⟨g1, g3, g5, g7, g8, g9, g10, g11, g12, hnk, rfl⟩
    by_cases hn : n < k
    · obtain ⟨b, hb⟩ : ∃ b, l[n]? = some b := ⟨_, List.getElem?_eq_getElem (by omega)⟩
      obtain ⟨ev, hev'⟩ : ∃ ev, out[n]? = some ev := ⟨_, List.getElem?_eq_getElem (by omega)⟩
      have hp : pr[n]? = some (b, ev) := by
        rw [hpr, List.getElem?_zip_eq_some]
        exact ⟨by rw [List.getElem?_take_of_lt hn]; exact hb, hev'⟩
      have hts := take_snoc hp
      have hevb := hev ev (List.mem_of_getElem? hev')
      have w2 : IntKind.i64.wrap (ev.ready + h.walk) = ev.ready + h.walk := wrap_i64 _ (by omega) (by omega)
      have k1 := fE_snoc s.screen (comeOf h.early s) (pr.take n) (b, ev)
      have k2 := fT_snoc h.walk s.team (pr.take n) (b, ev)
      rw [← hts] at k1 k2
      dsimp only at k1 k2
      have hfin : ∀ (v : Int), (b.screen = s.screen → v = max (fE s.screen (comeOf h.early s) (pr.take n)) ev.ready) → (¬b.screen = s.screen → v = fE s.screen (comeOf h.early s) (pr.take n)) → v = fE s.screen (comeOf h.early s) (pr.take (n + 1)) := by
        intro v h1 h2; rw [k1]; split
        · rename_i hh; exact h1 hh
        · rename_i hh; exact h2 hh
      cases hsc : (b.screen == s.screen)
      case' false => have hsc' : ¬b.screen = s.screen := by simpa using hsc
      case' true => have hsc' : b.screen = s.screen := by simpa using hsc
      all_goals
        cases htm : (b.team == s.team)
        case' false => have htm' : ¬b.team = s.team := by simpa using htm
        case' true => have htm' : b.team = s.team := by simpa using htm
      all_goals
        simp only [go_sem, Nat.reduceEqDiff, Nat.reduceAdd, Nat.reduceLT, Nat.reduceLeDiff, reduceIte, and_self, decide_true, decide_false, beq_self_eq_true, g1, g3, g5, g7, g8, g9, g10, g11, g12, dec_lt hn, Ss_idx _ hb, acE_idx _ hev', ECells, SCells, Nat.zero_add, get_last, set_last, hb9, get_app1 (get_app1 b0 _), HCells, hsc, htm, w2, wrap_n1 n (by omega)]
        refine Nx_of (n + 1) (by show k - (n + 1) < k - n; omega) ?_
        simp only [go_sem, Nat.reduceEqDiff, Nat.reduceAdd, Nat.reduceLT, Nat.reduceLeDiff, reduceIte, and_self, decide_true, decide_false, beq_self_eq_true, g1, g3, g5, g7, g8, g9, g10]
        refine ⟨trivial, trivial, trivial, trivial, trivial, trivial, trivial, ?_, trivial, hn, ?_⟩
        · rw [k2]; first | rw [if_pos htm'] | rw [if_neg htm']
          try exact g11
        · rw [k1]; first | rw [if_pos hsc'] | rw [if_neg hsc']
    obtain rfl : n = k := by omega
    have hpt : pr.take n = pr := by rw [← hprl]; exact List.take_length
    rw [hpt, hB.t] at g11
    have hfe : fE s.screen (comeOf h.early s) (pr.take n) = max (comeOf h.early s) (rd s.screen) := by rw [hpt]; exact hB.e _ _ hcb.1
    have hpass := passes_ok s.crowd rate i1 i2 hr0 hr1
    have hpn := pas_nn i1 hr0
    have hpl := pas_le i1 hr0
    have b5 := hb1 s.screen
    have b6 := hb2 s.team
    obtain ⟨E, hE⟩ : ∃ E, E = evIt h.early rate ⟨s, r, c⟩ rd id := ⟨_, rfl⟩
    have hE' : E = evOf (comeOf h.early s) s.bg (pas s.crowd rate) r c (rd s.screen) (id s.team) := hE
    have hup := evOf_up (come := comeOf h.early s) (bg := s.bg) (rd := rd s.screen) (id := id s.team) hpn (show 0 ≤ r by omega) (show 0 ≤ c by omega)
    rw [← hE'] at hup
    have hEb : E.ready ≤ 2000 + 1600 * (n : Int) + 1540 := by rw [hE']; unfold evOf; dsimp only; omega
    have hEagg : AV.agg [I64 (max (comeOf h.early s) (rd s.screen)), I64 (max (comeOf h.early s) (rd s.screen) + pas s.crowd rate), I64 (max s.bg (max (comeOf h.early s) (rd s.screen) + pas s.crowd rate)), I64 (max s.bg (max (comeOf h.early s) (rd s.screen) + pas s.crowd rate) + r + pas s.crowd rate),
        I64 (max (max s.bg (max (comeOf h.early s) (rd s.screen) + pas s.crowd rate) + r + pas s.crowd rate) (id s.team) + c)] = encE E := by rw [hE']; rfl
    have happ := fun bl => acE_app bl out E .tight (by omega)
    generalize hco' : comeOf h.early s = co at *
    generalize hpa : pas s.crowd rate = pa at *
    generalize hrd : rd s.screen = ra at *
    generalize hid : id s.team = ia at *
    have w2 : IntKind.i64.wrap (max co ra + pa) = max co ra + pa := wrap_i64 _ (by omega) (by omega)
    have w3 : IntKind.i64.wrap (max s.bg (max co ra + pa) + r) = max s.bg (max co ra + pa) + r := wrap_i64 _ (by omega) (by omega)
    have w4 : IntKind.i64.wrap (max s.bg (max co ra + pa) + r + pa) = max s.bg (max co ra + pa) + r + pa := wrap_i64 _ (by omega) (by omega)
    have w5 : IntKind.i64.wrap (max (max s.bg (max co ra + pa) + r + pa) ia + c) = max (max s.bg (max co ra + pa) + r + pa) ia + c := wrap_i64 _ (by omega) (by omega)
    simp only [go_sem, Nat.reduceEqDiff, Nat.reduceAdd, Nat.reduceLT, Nat.reduceLeDiff, reduceIte, and_self, decide_true, decide_false, beq_self_eq_true, g1, g3, g5, g7, g8, g9, g10, g11, g12, dec_ge (Nat.le_refl n), SCells, Nat.zero_add, get_last, set_last, hb9, get_app1 (get_app1 b0 _), get_app1 (get_app1 b1 _), HCells, XCells, hfe, WB48, WVH_eq hpass, true_and, w2, I_idx _ hr, I_idx _ hc, encN_eq, w3, w4, w5, hEagg, ECells, EEta, happ, wrap_n1 n (by omega)]
    refine Nx_of (n + 1, xs, out ++ [E], setI rd s.screen E.ready, setI id s.team (E.ready + h.walk)) (by simp) ?_
    simp only [go_sem, Nat.reduceEqDiff, Nat.reduceAdd, Nat.reduceLT, Nat.reduceLeDiff, reduceIte, and_self, decide_true, decide_false, beq_self_eq_true, g1, g3, g5, g7, g8, g9, g10]
    refine ⟨trivial, trivial, trivial, trivial, trivial, hd2, by simp [ho], ?_, ?_, ?_, ?_, ?_, _, rfl, get_app1 (get_app1 b0 _) _, get_app1 (get_app1 b1 _) _⟩
    · rw [← hsim, List.append_assoc]
      simp only [sim, ← hE, List.cons_append, List.nil_append]
    · rw [zip_snoc hs ho, ← hpr]
      exact hB.snoc (by rw [hrd]; omega) (by omega)
    · exact hb1.set (by push_cast; omega) (by omega) (by push_cast; omega)
    · exact hb2.set (by push_cast; omega) (by omega) (by push_cast; omega)
    · intro ev hev'
      rcases List.mem_append.1 hev' with h1 | h1
      · have := hev ev h1; push_cast; omega
      · simp at h1; subst h1; push_cast; omega
end Go.Ab.T
end

section
namespace Go.Ab.T
/-- The earliest and the latest minutes of all slots. -/
def tz (h : Hs) (l : List Sl) : List (Ev × Ev) := (simH h false l zeroI zeroI).zip (simH h true l zeroI zeroI)
def tE (h : Hs) (l : List Sl) : List (Ev × Ev) := if chk h l = 0 then tz h l else []
theorem simH_len (h : Hs) (hi : Bool) (l : List Sl) (rd id : Int → Int) : (simH h hi l rd id).length = l.length := by unfold simH; rw [sim_len, List.length_map]
theorem tz_len (h : Hs) (l : List Sl) : (tz h l).length = l.length := by unfold tz; rw [List.length_zip, simH_len, simH_len]; omega
def lateGo (h : Hs) : List Sl → (Int → Int) → (Int → Int) → Int → Int × Int
  | [], _, _, _ => (-1, 0)
  | s :: l, rd, id, n => if s.bg < (evH h true s rd id).start then (n, (evH h true s rd id).start - s.bg) else
      lateGo h l (setI rd s.screen (evH h true s rd id).ready) (setI id s.team ((evH h true s rd id).ready + h.walk)) (n + 1)
def lateE (h : Hs) (l : List Sl) : Int × Int := if chk h l = 0 then lateGo h l zeroI zeroI 0 else (0, 0)
/-- Who waits of a crowd. -/
def wait1 (crowd rate come enter m : Int) : Int := if come ≤ m then max 0 (crowd - rate * max 0 (m - enter + 1)) else 0
def waitS (h : Hs) (hi : Bool) (m : Int) : List Sl → (Int → Int) → (Int → Int) → Int
  | [], _, _ => 0
  | s :: l, rd, id => wait1 s.crowd (rateOf h hi) (comeOf h.early s) (evH h hi s rd id).enter m + waitS h hi m l (setI rd s.screen (evH h hi s rd id).ready) (setI id s.team ((evH h hi s rd id).ready + h.walk))
def waitE (h : Hs) (hi : Bool) (l : List Sl) (m : Int) : Int := waitS h hi m l zeroI zeroI
def crowdGo (h : Hs) (l : List Sl) : Nat → Int → Int
  | 0, _ => -1
  | f + 1, m => if h.foyer < waitE h true l m then m else crowdGo h l f (m + 1)
def crowdE (h : Hs) (l : List Sl) : Int := crowdGo h l 2001 0
theorem crowdGo_spec (h : Hs) (l : List Sl) : ∀ (f : Nat) (m : Int), (crowdGo h l f m = -1 ∧ ∀ k, m ≤ k → k < m + f → waitE h true l k ≤ h.foyer) ∨
    (m ≤ crowdGo h l f m ∧ crowdGo h l f m < m + f ∧ h.foyer < waitE h true l (crowdGo h l f m) ∧ ∀ k, m ≤ k → k < crowdGo h l f m → waitE h true l k ≤ h.foyer)
  | 0, m => .inl ⟨rfl, fun k h1 h2 => by omega⟩
  | f + 1, m => by
    unfold crowdGo
    by_cases hw : h.foyer < waitE h true l m
    · rw [if_pos hw]; exact .inr ⟨Int.le_refl _, by omega, hw, fun k h1 h2 => by omega⟩
    · rw [if_neg hw]
      rcases crowdGo_spec h l f (m + 1) with ⟨h1, h2⟩ | ⟨h1, h2, h3, h4⟩
      · refine .inl ⟨h1, fun k h5 h6 => ?_⟩
        by_cases hk : k = m
        · subst hk; omega
        · exact h2 k (by omega) (by push_cast at h6; omega)
      · refine .inr ⟨by omega, by push_cast; omega, h3, fun k h5 h6 => ?_⟩
        by_cases hk : k = m
        · subst hk; omega
        · exact h4 k (by omega) h6
/-- How screens and teams stand behind slots. -/
def stL (h : Hs) (hi : Bool) : List Sl → (Int → Int) → (Int → Int) → (Int → Int) × (Int → Int)
  | [], rd, id => (rd, id)
  | s :: l, rd, id => stL h hi l (setI rd s.screen (evH h hi s rd id).ready) (setI id s.team ((evH h hi s rd id).ready + h.walk))
def nextOK (h : Hs) (l : List Sl) (s : Sl) (m : Int) : Bool :=
  behind l { s with bg := m } && !decide (m < (evH h true { s with bg := m } (stL h true l zeroI zeroI).1 (stL h true l zeroI zeroI).2).start)
def nextGo (h : Hs) (l : List Sl) (s : Sl) : Nat → Int → Int × Int
  | 0, _ => (0, 3)
  | f + 1, m => if nextOK h l s m = true then (m, 0) else nextGo h l s f (m + 1)
theorem nextGo_spec (h : Hs) (l : List Sl) (s : Sl) : ∀ (f : Nat) (m : Int), (nextGo h l s f m = (0, 3) ∧ ∀ k, m ≤ k → k < m + f → nextOK h l s k = false) ∨
    (∃ n, nextGo h l s f m = (n, 0) ∧ m ≤ n ∧ n < m + f ∧ nextOK h l s n = true ∧ ∀ k, m ≤ k → k < n → nextOK h l s k = false)
  | 0, m => .inl ⟨rfl, fun k h1 h2 => by omega⟩
  | f + 1, m => by
    unfold nextGo
    by_cases hw : nextOK h l s m = true
    · rw [if_pos hw]; exact .inr ⟨m, rfl, Int.le_refl _, by omega, hw, fun k h1 h2 => by omega⟩
    · rw [if_neg hw]
      rcases nextGo_spec h l s f (m + 1) with ⟨h1, h2⟩ | ⟨n, h1, h2, h3, h4, h5⟩
      · refine .inl ⟨h1, fun k h5 h6 => ?_⟩
        by_cases hk : k = m
        · subst hk; simpa using hw
        · exact h2 k (by omega) (by push_cast at h6; omega)
      · refine .inr ⟨n, h1, by omega, by push_cast; omega, h4, fun k h6 h7 => ?_⟩
        by_cases hk : k = m
        · subst hk; simpa using hw
        · exact h5 k (by omega) h7
def nextE (h : Hs) (l : List Sl) (s : Sl) : Int × Int := if chk h l = 0 then (if l.length = 12 ∨ slotOK h s = false then (0, 1) else nextGo h l s 2001 0) else (0, chk h l)
end Go.Ab.T
end

section
namespace Go.Ab.T
set_option maxRecDepth 8000
set_option maxHeartbeats 4000000
abbrev nR (h : Hs) (hi : Bool) (s : Sl) (rd id : Int → Int) : Int → Int := setI rd s.screen (evH h hi s rd id).ready
abbrev nI (h : Hs) (hi : Bool) (s : Sl) (rd id : Int → Int) : Int → Int := setI id s.team ((evH h hi s rd id).ready + h.walk)
theorem V_w (h h' : Hs) (hi hi' : Bool) (rd id rd' id' : Int → Int) : writeCells (encV h hi rd id) 0 (encV h' hi' rd' id').cells = some (encV h' hi' rd' id') := rfl
theorem set1_get2 (l : List Blk) (b : Blk) : (l.set 1 b)[2]? = l[2]? := by simp
theorem set1_get0 (l : List Blk) (b : Blk) : (l.set 1 b)[0]? = l[0]? := by simp
theorem set2_get1 (l : List Blk) (b : Blk) : (l.set 2 b)[1]? = l[1]? := by simp
theorem set_get {l : List Blk} {i : Nat} {b : Blk} (h : l[i]? = some b) (c : Blk) : (l.set i c)[i]? = some c := by
  rw [List.getElem?_set_self (List.getElem?_eq_some_iff.1 h).1]
theorem chk_ne {h : Hs} {l : List Sl} (hc : ¬chk h l = 0) : (chk h l != 0) = true := by simp [bne, hc]
theorem chk_eq {h : Hs} {l : List Sl} (hc : chk h l = 0) : (chk h l != 0) = false := by simp [bne, hc]
theorem acM_app (bl : List Blk) (out : List (Ev × Ev)) (e : Ev × Ev) (w : Tk) (hl : out.length ≤ 1000) : appendAt ⟨bl, acT 45 (out.map encM)⟩ false (acV (out.map encM)) (.sl [encM e] w) 45 10 80 = some (acV ((out ++ [e]).map encM), ⟨bl, acT 45 ((out ++ [e]).map encM)⟩) := by
  have := ac_app (es := out.map encM) (y := encM e) (T := 45) (sz := 10) (bytes := 80) bl w (fun x hx => by obtain ⟨y, _, rfl⟩ := List.mem_map.1 hx; rfl) rfl (by rw [List.length_map]; unfold limit; omega)
  rw [this]; simp
/-- The next state of an evening is as small. -/
theorem Bd.nxt {h hh : Hs} {s : Sl} {rd id : Int → Int} {k : Nat} (hH : HV h) (hS : SV hh s) (hb0 : 0 ≤ s.bg) (hb1 : s.bg ≤ 2000) (h1 : Bd (2000 + 1600 * k) rd) (h2 : Bd (2000 + 1600 * k) id) (hi : Bool) :
    Bd (2000 + 1600 * ((k + 1 : Nat) : Int)) (setI rd s.screen (evH h hi s rd id).ready) ∧ Bd (2000 + 1600 * ((k + 1 : Nat) : Int)) (setI id s.team ((evH h hi s rd id).ready + h.walk)) := by
  have hb := ev_b hH hS hb0 hb1 h1 h2 (by omega) hi
  have := hH.w0
  have := hH.w1
  exact ⟨h1.set (by push_cast; omega) (by omega) (by push_cast; omega), h2.set (by push_cast; omega) (by omega) (by push_cast; omega)⟩
theorem Times_ok (h : Hs) (l : List Sl) : RV ft 16 [encH h, encSs l] (.tup [encMs (tE h l), I64 (chk h l)]) := by
  refine RV_of ft16 rfl ?_
  simp only [c16, r16]
  unfold tE
  by_cases hc : chk h l = 0
  case neg =>
    rw [if_neg hc]
    simp only [go_sem, Nat.reduceEqDiff, Nat.reduceAdd, Nat.reduceLT, Nat.reduceLeDiff, reduceIte, and_self, decide_true, decide_false, beq_self_eq_true, HCells, HEta, WB31, snH, hotH, snSs, hotSs, WVH_eq (Check_ok h l), chk_ne hc, true_and]
    rfl
  rw [if_pos hc]
  have hV := chk_0.1 hc
  have hH := hV.H
  have hl12 := hV.len
  simp only [go_sem, Nat.reduceEqDiff, Nat.reduceAdd, Nat.reduceLT, Nat.reduceLeDiff, reduceIte, and_self, decide_true, decide_false, beq_self_eq_true, HCells, HEta, WB31, snH, hotH, snSs, hotSs, WVH_eq (Check_ok h l), chk_eq hc, true_and, WB42, WVH_eq (earliest_ok h), WB43, WVH_eq (latest_ok h), V_len, V_solid, Ss_len]
  refine WL_inv (α := Nat × List Sl × List (Ev × Ev) × ((Int → Int) × (Int → Int)) × ((Int → Int) × (Int → Int))) (fun q e mm => e 7 = acV (q.2.2.1.map encM) ∧ e 8 = .ptr 1 0 0 ∧ e 9 = .ptr 2 0 0 ∧ e 22 = encSs l ∧ e 23 = I64 l.length ∧ e 24 = I64 q.1 ∧ l.drop q.1 = q.2.1 ∧ q.2.2.1.length = q.1 ∧
      q.2.2.1 ++ (simH h false q.2.1 q.2.2.2.1.1 q.2.2.2.1.2).zip (simH h true q.2.1 q.2.2.2.2.1 q.2.2.2.2.2) = tz h l ∧ Bd (2000 + 1600 * q.1) q.2.2.2.1.1 ∧ Bd (2000 + 1600 * q.1) q.2.2.2.1.2 ∧ Bd (2000 + 1600 * q.1) q.2.2.2.2.1 ∧ Bd (2000 + 1600 * q.1) q.2.2.2.2.2 ∧
      ∃ bl, mm = ⟨bl, acT 45 (q.2.2.1.map encM)⟩ ∧ bl[1]? = some (.live [encV h false q.2.2.2.1.1 q.2.2.2.1.2] 21) ∧ bl[2]? = some (.live [encV h true q.2.2.2.2.1 q.2.2.2.2.2] 21)) (fun q => q.2.1.length) (0, l, [], (zeroI, zeroI), (zeroI, zeroI)) ?_ ?_
  · simp only [go_sem, Nat.reduceEqDiff, Nat.reduceAdd, Nat.reduceLT, Nat.reduceLeDiff, reduceIte, and_self, decide_true, decide_false, beq_self_eq_true]
    exact ⟨rfl, trivial, trivial, trivial, trivial, rfl, trivial, trivial, rfl, Bd_zero (by omega), Bd_zero (by omega), Bd_zero (by omega), Bd_zero (by omega), _, rfl, rfl, rfl⟩
  rintro ⟨k, r, out, ⟨rd, id⟩, ⟨rd', id'⟩⟩ e m ⟨g7, g8, g9, g22, g23, g24, hd, ho, hsim, hb1, hb2, hb3, hb4, bl, rfl, b1, b2⟩
  dsimp only at g7 g24 hd ho hsim hb1 hb2 hb3 hb4 b1 b2
  cases r with
  | nil =>
    have := drop_nil hd
    simp only [go_sem, Nat.reduceEqDiff, Nat.reduceAdd, Nat.reduceLT, Nat.reduceLeDiff, reduceIte, and_self, decide_true, decide_false, beq_self_eq_true, g7, g8, g9, g22, g23, g24, dec_ge this]
    simp only [simH_nil, List.zip_nil_left, List.append_nil] at hsim
    rw [hsim]
    simp only [go_sem, Nat.reduceEqDiff, Nat.reduceAdd, Nat.reduceLT, Nat.reduceLeDiff, reduceIte, and_self, decide_true, decide_false, beq_self_eq_true, hc]
    exact congrArg (fun x => AV.tup [x, I64 0]) (snMst _ 5 _ _)
  | cons x r =>
    obtain ⟨hk, hd2, hlt⟩ := drop_cons hd
    have hxm := List.mem_of_getElem? hk
    have hS := hV.S x hxm
    have x0 := hV.b0 x hxm
    have x1 := hV.b1 x hxm
    have t1 := times_ok hH hS x0 x1 hb1 hb2 (by omega) (by omega) false
    have t2 := times_ok hH hS x0 x1 hb3 hb4 (by omega) (by omega) true
    have a1 := after_ok hH hS x0 x1 hb1 hb2 (by omega) (by omega) false
    have a2 := after_ok hH hS x0 x1 hb3 hb4 (by omega) (by omega) true
    obtain ⟨n1, n2⟩ := Bd.nxt hH hS x0 x1 hb1 hb2 false
    obtain ⟨n3, n4⟩ := Bd.nxt hH hS x0 x1 hb3 hb4 true
    have happ := fun bl => acM_app bl out (evH h false x rd id, evH h true x rd' id') .tight (by omega)
    simp only [go_sem, Nat.reduceEqDiff, Nat.reduceAdd, Nat.reduceLT, Nat.reduceLeDiff, reduceIte, and_self, decide_true, decide_false, beq_self_eq_true, g7, g8, g9, g22, g23, g24, dec_lt hlt, Ss_idx _ hk, SCells, SEta, get_last, set_last, get_app1 b1, get_app1 b2, V_len, V_solid, V_take, V_drop, V_eta, WB45, WB46, snV, hotV, snS, hotS, WVH_eq t1, WVH_eq t2, WVH_eq a1, WVH_eq a2, true_and, WB44, snT, hotT, WVH_eq (between_ok _ _ _ _), MCells, MEta, happ, V_w, set1_get2, wrap_n1 k (by omega)]
    refine Nx_of (k + 1, r, out ++ [(evH h false x rd id, evH h true x rd' id')], (nR h false x rd id, nI h false x rd id), (nR h true x rd' id', nI h true x rd' id')) (by simp) ?_
    simp only [go_sem, Nat.reduceEqDiff, Nat.reduceAdd, Nat.reduceLT, Nat.reduceLeDiff, reduceIte, and_self, decide_true, decide_false, beq_self_eq_true, g8, g9, g22, g23]
    refine ⟨trivial, trivial, trivial, trivial, trivial, trivial, hd2, by simp [ho], ?_, n1, n2, n3, n4, _, rfl, ?_, ?_⟩
    · rw [← hsim, List.append_assoc]; rfl
    · rw [set2_get1]; exact set_get (get_app1 b1 _) _
    · exact set_get (by rw [set1_get2]; exact get_app1 b2 _) _
theorem resOf_ttt (s : St) (n m k : Nat) : resOf s [.t n, .t m, .t k] = some (.tup [s.env n, s.env m, s.env k]) := rfl
theorem Late_ok (h : Hs) (l : List Sl) : RV ft 17 [encH h, encSs l] (.tup [I64 (lateE h l).1, I64 (lateE h l).2, I64 (chk h l)]) := by
  refine RV_of ft17 rfl ?_
  simp only [c17, r17]
  unfold lateE
  by_cases hc : chk h l = 0
  case neg =>
    rw [if_neg hc]
    simp only [go_sem, Nat.reduceEqDiff, Nat.reduceAdd, Nat.reduceLT, Nat.reduceLeDiff, reduceIte, and_self, decide_true, decide_false, beq_self_eq_true, HCells, HEta, WB31, snH, hotH, snSs, hotSs, WVH_eq (Check_ok h l), chk_ne hc, true_and]
    rfl
  rw [if_pos hc]
  have hV := chk_0.1 hc
  have hH := hV.H
  have hl12 := hV.len
  simp only [go_sem, Nat.reduceEqDiff, Nat.reduceAdd, Nat.reduceLT, Nat.reduceLeDiff, reduceIte, and_self, decide_true, decide_false, beq_self_eq_true, HCells, HEta, WB31, snH, hotH, snSs, hotSs, WVH_eq (Check_ok h l), chk_eq hc, true_and, WB43, WVH_eq (latest_ok h), V_len, V_solid, V_eta, Ss_len]
  refine WL_inv (α := Nat × List Sl × (Int → Int) × (Int → Int)) (fun q e mm => e 8 = .ptr 1 0 0 ∧ e 19 = encSs l ∧ e 20 = I64 l.length ∧ e 21 = I64 q.1 ∧ l.drop q.1 = q.2.1 ∧ lateGo h q.2.1 q.2.2.1 q.2.2.2 q.1 = lateGo h l zeroI zeroI 0 ∧
      Bd (2000 + 1600 * q.1) q.2.2.1 ∧ Bd (2000 + 1600 * q.1) q.2.2.2 ∧ ∃ bl tk, mm = ⟨bl, tk⟩ ∧ bl[1]? = some (.live [encV h true q.2.2.1 q.2.2.2] 21)) (fun q => q.2.1.length) (0, l, zeroI, zeroI) ?_ ?_
  · simp only [go_sem, Nat.reduceEqDiff, Nat.reduceAdd, Nat.reduceLT, Nat.reduceLeDiff, reduceIte, and_self, decide_true, decide_false, beq_self_eq_true]
    exact ⟨trivial, trivial, trivial, rfl, trivial, rfl, Bd_zero (by omega), Bd_zero (by omega), _, _, rfl, rfl⟩
  rintro ⟨k, r, rd, id⟩ e m ⟨g8, g19, g20, g21, hd, hsim, hb1, hb2, bl, tk, rfl, b1⟩
  dsimp only at g21 hd hsim hb1 hb2 b1
  cases r with
  | nil =>
    have := drop_nil hd
    simp only [go_sem, Nat.reduceEqDiff, Nat.reduceAdd, Nat.reduceLT, Nat.reduceLeDiff, reduceIte, and_self, decide_true, decide_false, beq_self_eq_true, g8, g19, g20, g21, dec_ge this]
    rw [← hsim, hc]; rfl
  | cons x r =>
    obtain ⟨hk, hd2, hlt⟩ := drop_cons hd
    have hxm := List.mem_of_getElem? hk
    have hS := hV.S x hxm
    have x0 := hV.b0 x hxm
    have x1 := hV.b1 x hxm
    have t1 := times_ok hH hS x0 x1 hb1 hb2 (by omega) (by omega) true
    have a1 := after_ok hH hS x0 x1 hb1 hb2 (by omega) (by omega) true
    have d1 := delays_ok hH hS x0 x1 hb1 hb2 (by omega) (by omega) true
    have hevb := ev_b hH hS x0 x1 hb1 hb2 (by omega) true
    obtain ⟨n1, n2⟩ := Bd.nxt hH hS x0 x1 hb1 hb2 true
    rw [lateGo] at hsim
    have w1 : IntKind.i64.wrap ((evH h true x rd id).start - x.bg) = (evH h true x rd id).start - x.bg := wrap_i64 _ (by omega) (by omega)
    cases hdl : decide (x.bg < (evH h true x rd id).start)
    · rw [if_neg (of_decide_eq_false hdl)] at hsim
      simp only [go_sem, Nat.reduceEqDiff, Nat.reduceAdd, Nat.reduceLT, Nat.reduceLeDiff, reduceIte, and_self, decide_true, decide_false, beq_self_eq_true, g8, g19, g20, g21, dec_lt hlt, Ss_idx _ hk, SCells, SEta, get_last, set_last, get_app1 b1, V_len, V_solid, V_take, V_drop, V_eta, WB47, WB46, snV, hotV, snS, hotS, WVH_eq d1, hdl, WVH_eq a1, true_and, V_w, wrap_n1 k (by omega)]
      refine Nx_of (k + 1, r, nR h true x rd id, nI h true x rd id) (by simp) ?_
      simp only [go_sem, Nat.reduceEqDiff, Nat.reduceAdd, Nat.reduceLT, Nat.reduceLeDiff, reduceIte, and_self, decide_true, decide_false, beq_self_eq_true, g8, g19, g20]
      exact ⟨trivial, trivial, trivial, trivial, hd2, by rw [← hsim]; push_cast; rfl, n1, n2, _, _, rfl, set_get (get_app1 b1 _) _⟩
    · rw [if_pos (of_decide_eq_true hdl)] at hsim
      simp only [go_sem, Nat.reduceEqDiff, Nat.reduceAdd, Nat.reduceLT, Nat.reduceLeDiff, reduceIte, and_self, decide_true, decide_false, beq_self_eq_true, g8, g19, g20, g21, dec_lt hlt, Ss_idx _ hk, SCells, SEta, get_last, set_last, get_app1 b1, V_len, V_solid, V_take, V_drop, V_eta, WB47, WB45, snV, hotV, snS, hotS, WVH_eq d1, hdl, WVH_eq t1, true_and, encT, w1, resOf_ttt]
      rw [← hsim, hc]
end Go.Ab.T
end

section
namespace Go.Ab.T
set_option maxRecDepth 8000
set_option maxHeartbeats 4000000
theorem wait1_b {crowd rate come enter m : Int} (h0 : 0 ≤ crowd) (h1 : crowd ≤ 500) (hr : 0 ≤ rate) : 0 ≤ wait1 crowd rate come enter m ∧ wait1 crowd rate come enter m ≤ 500 := by
  unfold wait1
  split
  · have : 0 ≤ rate * max 0 (m - enter + 1) := Int.mul_nonneg hr (by omega)
    omega
  · omega
theorem waiting_ok {h : Hs} {l : List Sl} (hV : LV h l) (hi : Bool) (m : Int) (m0 : 0 ≤ m) (m1 : m ≤ 9999) : RV ft 50 [encV h hi zeroI zeroI, encSs l, I64 m] (I64 (waitE h hi l m)) := by
  refine RV_of ft50 rfl ?_
  simp only [c50, r50]
  have hH := hV.H
  have hl12 := hV.len
  have hrb := rate_b hH hi
  simp only [go_sem, Nat.reduceEqDiff, Nat.reduceAdd, Nat.reduceLT, Nat.reduceLeDiff, reduceIte, and_self, decide_true, decide_false, beq_self_eq_true, V_len, V_solid, Ss_len]
  refine WL_inv (α := Nat × List Sl × (Int → Int) × (Int → Int) × Int) (fun q e mm => e 2 = I64 m ∧ e 3 = .ptr 0 0 0 ∧ e 7 = I64 q.2.2.2.2 ∧ e 12 = encSs l ∧ e 13 = I64 l.length ∧ e 14 = I64 q.1 ∧ l.drop q.1 = q.2.1 ∧ q.2.2.2.2 + waitS h hi m q.2.1 q.2.2.1 q.2.2.2.1 = waitE h hi l m ∧
      Bd (2000 + 1600 * q.1) q.2.2.1 ∧ Bd (2000 + 1600 * q.1) q.2.2.2.1 ∧ 0 ≤ q.2.2.2.2 ∧ q.2.2.2.2 ≤ 500 * q.1 ∧ ∃ bl tk, mm = ⟨bl, tk⟩ ∧ bl[0]? = some (.live [encV h hi q.2.2.1 q.2.2.2.1] 21)) (fun q => q.2.1.length) (0, l, zeroI, zeroI, 0) ?_ ?_
  · simp only [go_sem, Nat.reduceEqDiff, Nat.reduceAdd, Nat.reduceLT, Nat.reduceLeDiff, reduceIte, and_self, decide_true, decide_false, beq_self_eq_true]
    refine ⟨trivial, trivial, trivial, trivial, trivial, rfl, trivial, ?_, Bd_zero (by omega), Bd_zero (by omega), by omega, by omega, _, _, rfl, rfl⟩
    show 0 + waitS h hi m l zeroI zeroI = waitS h hi m l zeroI zeroI; omega
  rintro ⟨k, r, rd, id, pe⟩ e mm ⟨g2, g3, g7, g12, g13, g14, hd, hsim, hb1, hb2, p0, p1, bl, tk, rfl, b0⟩
  dsimp only at g7 g14 hd hsim hb1 hb2 p0 p1 b0
  cases r with
  | nil =>
    have := drop_nil hd
    simp only [waitS, Int.add_zero] at hsim
    simp only [go_sem, Nat.reduceEqDiff, Nat.reduceAdd, Nat.reduceLT, Nat.reduceLeDiff, reduceIte, and_self, decide_true, decide_false, beq_self_eq_true, g2, g3, g7, g12, g13, g14, dec_ge this, hsim]
  | cons x r =>
    obtain ⟨hk, hd2, hlt⟩ := drop_cons hd
    have hxm := List.mem_of_getElem? hk
    have hS := hV.S x hxm
    have x0 := hV.b0 x hxm
    have x1 := hV.b1 x hxm
    have t1 := times_ok hH hS x0 x1 hb1 hb2 (by omega) (by omega) hi
    have a1 := after_ok hH hS x0 x1 hb1 hb2 (by omega) (by omega) hi
    have hevb := ev_b hH hS x0 x1 hb1 hb2 (by omega) hi
    obtain ⟨n1, n2⟩ := Bd.nxt hH hS x0 x1 hb1 hb2 hi
    rw [waitS] at hsim
    have hc0 := hS.c0
    have hc1 := hS.c1
    have hwb := wait1_b (rate := rateOf h hi) (come := comeOf h.early x) (enter := (evH h hi x rd id).enter) (m := m) hc0 hc1 (by omega)
    cases hdl : decide (comeOf h.early x ≤ m)
    · have hw : wait1 x.crowd (rateOf h hi) (comeOf h.early x) (evH h hi x rd id).enter m = 0 := if_neg (of_decide_eq_false hdl)
      rw [hw] at hsim
      simp only [go_sem, Nat.reduceEqDiff, Nat.reduceAdd, Nat.reduceLT, Nat.reduceLeDiff, reduceIte, and_self, decide_true, decide_false, beq_self_eq_true, g2, g3, g7, g12, g13, g14, dec_lt hlt, Ss_idx _ hk, SCells, SEta, get_last, set_last, get_app1 b0, get_app1 (get_app1 b0 _), V_len, V_solid, V_take, V_drop, V_eta, WB45, WB46, snV, hotV, snS, hotS, WVH_eq t1, TCells, hdl, get_app1 (get_last bl _), WVH_eq a1, true_and, V_w, wrap_n1 k (by omega)]
      refine Nx_of (k + 1, r, nR h hi x rd id, nI h hi x rd id, pe) (by simp) ?_
      simp only [go_sem, Nat.reduceEqDiff, Nat.reduceAdd, Nat.reduceLT, Nat.reduceLeDiff, reduceIte, and_self, decide_true, decide_false, beq_self_eq_true, g2, g3, g7, g12, g13]
      exact ⟨trivial, trivial, trivial, trivial, trivial, trivial, hd2, by rw [← hsim]; simp only [nR, nI]; omega, n1, n2, p0, by push_cast; omega, _, _, rfl, set_get (get_app1 (get_app1 b0 _) _) _⟩
    · have hw : wait1 x.crowd (rateOf h hi) (comeOf h.early x) (evH h hi x rd id).enter m = max 0 (x.crowd - rateOf h hi * max 0 (m - (evH h hi x rd id).enter + 1)) := if_pos (of_decide_eq_true hdl)
      rw [hw] at hsim hwb
      obtain ⟨en, hen⟩ : ∃ en, en = (evH h hi x rd id).enter := ⟨_, rfl⟩
      have henb : 0 ≤ en ∧ en ≤ 1000000 := by rw [hen]; omega
      have w1 : IntKind.i64.wrap (m - en) = m - en := wrap_i64 _ (by omega) (by omega)
      have w2 : IntKind.i64.wrap (m - en + 1) = m - en + 1 := wrap_i64 _ (by omega) (by omega)
      rw [← hen] at hsim hwb
      have hm0 : 0 ≤ rateOf h hi * max 0 (m - en + 1) := Int.mul_nonneg (by omega) (by omega)
      have hm1 : rateOf h hi * max 0 (m - en + 1) ≤ 100 * 10000 := Int.mul_le_mul hrb.2 (by omega) (by omega) (by omega)
      generalize hmul : rateOf h hi * max 0 (m - en + 1) = mu at *
      have w3 : IntKind.i64.wrap mu = mu := wrap_i64 _ (by omega) (by omega)
      have w4 : IntKind.i64.wrap (x.crowd - mu) = x.crowd - mu := wrap_i64 _ (by omega) (by omega)
      have w5 : IntKind.i64.wrap (pe + max 0 (x.crowd - mu)) = pe + max 0 (x.crowd - mu) := wrap_i64 _ (by omega) (by omega)
      simp only [go_sem, Nat.reduceEqDiff, Nat.reduceAdd, Nat.reduceLT, Nat.reduceLeDiff, reduceIte, and_self, decide_true, decide_false, beq_self_eq_true, g2, g3, g7, g12, g13, g14, dec_lt hlt, Ss_idx _ hk, SCells, SEta, get_last, set_last, get_app1 b0, get_app1 (get_app1 b0 _), V_len, V_solid, V_take, V_drop, V_eta, WB45, WB46, snV, hotV, snS, hotS, WVH_eq t1, TCells, hdl, get_app1 (get_last bl _), WVH_eq a1, true_and, V_w, ← hen, w1, w2, V_c8, Nat.zero_add, hmul, w3, w4, w5, wrap_n1 k (by omega)]
      refine Nx_of (k + 1, r, nR h hi x rd id, nI h hi x rd id, pe + max 0 (x.crowd - mu)) (by simp) ?_
      simp only [go_sem, Nat.reduceEqDiff, Nat.reduceAdd, Nat.reduceLT, Nat.reduceLeDiff, reduceIte, and_self, decide_true, decide_false, beq_self_eq_true, g2, g3, g7, g12, g13]
      exact ⟨trivial, trivial, trivial, trivial, trivial, trivial, hd2, by rw [← hsim]; simp only [nR, nI]; omega, n1, n2, by omega, by push_cast; omega, _, _, rfl, set_get (get_app1 (get_app1 b0 _) _) _⟩
/-- What Waiting answers: the span, and the error. -/
def waitQ (h : Hs) (l : List Sl) (m : Int) : (Int × Int) × Int := if chk h l = 0 then (if inR m 0 9999 then ((waitE h false l m, waitE h true l m), 0) else ((0, 0), 1)) else ((0, 0), chk h l)
theorem Waiting_ok (h : Hs) (l : List Sl) (m : Int) : RV ft 21 [encH h, encSs l, I64 m] (.tup [.agg [I64 (waitQ h l m).1.1, I64 (waitQ h l m).1.2], I64 (waitQ h l m).2]) := by
  refine RV_of ft21 rfl ?_
  simp only [c21, r21]
  unfold waitQ
  by_cases hc : chk h l = 0
  case neg =>
    rw [if_neg hc]
    simp only [go_sem, Nat.reduceEqDiff, Nat.reduceAdd, Nat.reduceLT, Nat.reduceLeDiff, reduceIte, and_self, decide_true, decide_false, beq_self_eq_true, HCells, HEta, WB31, snH, hotH, snSs, hotSs, WVH_eq (Check_ok h l), chk_ne hc, true_and]
  rw [if_pos hc]
  have hV := chk_0.1 hc
  have hH := hV.H
  cases hm : inR m 0 9999
  · simp only [go_sem, Nat.reduceEqDiff, Nat.reduceAdd, Nat.reduceLT, Nat.reduceLeDiff, reduceIte, and_self, decide_true, decide_false, beq_self_eq_true, HCells, HEta, WB31, snH, hotH, snSs, hotSs, WVH_eq (Check_ok h l), chk_eq hc, true_and, WB49, WVH_eq (isWithin_ok _ _ _), hm]
    rfl
  obtain ⟨m0, m1⟩ := inR_iff.1 hm
  simp only [go_sem, Nat.reduceEqDiff, Nat.reduceAdd, Nat.reduceLT, Nat.reduceLeDiff, reduceIte, and_self, decide_true, decide_false, beq_self_eq_true, HCells, HEta, WB31, snH, hotH, snSs, hotSs, WVH_eq (Check_ok h l), chk_eq hc, true_and, WB49, WVH_eq (isWithin_ok _ _ _), hm, WB42, WVH_eq (earliest_ok h), WB43, WVH_eq (latest_ok h), V_len, V_solid, V_take, V_drop, V_eta, WB50, snV, hotV, WVH_eq (waiting_ok hV false m m0 m1), WVH_eq (waiting_ok hV true m m0 m1)]
def crowdQ (h : Hs) (l : List Sl) : Int × Int := if chk h l = 0 then (crowdE h l, 0) else (0, chk h l)
theorem Crowded_ok (h : Hs) (l : List Sl) : RV ft 22 [encH h, encSs l] (.tup [I64 (crowdQ h l).1, I64 (crowdQ h l).2]) := by
  refine RV_of ft22 rfl ?_
  simp only [c22, r22]
  unfold crowdQ
  by_cases hc : chk h l = 0
  case neg =>
    rw [if_neg hc]
    simp only [go_sem, Nat.reduceEqDiff, Nat.reduceAdd, Nat.reduceLT, Nat.reduceLeDiff, reduceIte, and_self, decide_true, decide_false, beq_self_eq_true, HCells, HEta, WB31, snH, hotH, snSs, hotSs, WVH_eq (Check_ok h l), chk_ne hc, true_and]
  rw [if_pos hc]
  have hV := chk_0.1 hc
  have hH := hV.H
  obtain ⟨z, hz⟩ : ∃ z : Nat, z = 2001 := ⟨_, rfl⟩
  have hce : crowdE h l = crowdGo h l z 0 := by rw [hz]; rfl
  rw [hce]
  simp only [go_sem, Nat.reduceEqDiff, Nat.reduceAdd, Nat.reduceLT, Nat.reduceLeDiff, reduceIte, and_self, decide_true, decide_false, beq_self_eq_true, HCells, HEta, WB31, snH, hotH, snSs, hotSs, WVH_eq (Check_ok h l), chk_eq hc, true_and, WB43, WVH_eq (latest_ok h), V_len, V_solid, V_take, V_drop, V_eta]
  refine WL_inv (α := Nat × Nat) (fun q e mm => e 1 = encSs l ∧ e 2 = .ptr 0 0 0 ∧ e 7 = .ptr 1 0 0 ∧ e 17 = I64 q.1 ∧ q.1 + q.2 = z ∧ crowdGo h l q.2 q.1 = crowdGo h l z 0 ∧ mm = ⟨[.live [encH h] 8, .live [encV h true zeroI zeroI] 21], []⟩) (fun q => q.2) (0, z) ?_ ?_
  · simp only [go_sem, Nat.reduceEqDiff, Nat.reduceAdd, Nat.reduceLT, Nat.reduceLeDiff, reduceIte, and_self, decide_true, decide_false, beq_self_eq_true]
    exact ⟨trivial, trivial, trivial, rfl, by omega, rfl, trivial⟩
  rintro ⟨k, f⟩ e mm ⟨g1, g2, g7, g17, hkf, hq, rfl⟩
  dsimp only at g17 hkf hq
  cases f with
  | zero =>
    have d1 : decide ((k : Int) < 2001) = false := decide_eq_false (by omega)
    simp only [go_sem, Nat.reduceEqDiff, Nat.reduceAdd, Nat.reduceLT, Nat.reduceLeDiff, reduceIte, and_self, decide_true, decide_false, beq_self_eq_true, g1, g2, g7, g17, d1]
    rw [← hq]; rfl
  | succ f =>
    have d1 : decide ((k : Int) < 2001) = true := decide_eq_true (by omega)
    have hw := waiting_ok hV true (k : Int) (by omega) (by omega)
    rw [crowdGo] at hq
    cases hd : decide (h.foyer < waitE h true l k)
    · rw [if_neg (of_decide_eq_false hd)] at hq
      simp only [go_sem, Nat.reduceEqDiff, Nat.reduceAdd, Nat.reduceLT, Nat.reduceLeDiff, reduceIte, and_self, decide_true, decide_false, beq_self_eq_true, g1, g2, g7, g17, d1, V_len, V_solid, V_take, V_drop, V_eta, WB50, snV, hotV, snSs, hotSs, WVH_eq hw, true_and, HCells, hd, wrap_n1 k (by omega)]
      refine Nx_of (k + 1, f) (by simp) ?_
      simp only [go_sem, Nat.reduceEqDiff, Nat.reduceAdd, Nat.reduceLT, Nat.reduceLeDiff, reduceIte, and_self, decide_true, decide_false, beq_self_eq_true, g1, g2, g7]
      exact ⟨trivial, trivial, trivial, trivial, by omega, by rw [← hq]; push_cast; rfl, trivial⟩
    · rw [if_pos (of_decide_eq_true hd)] at hq
      simp only [go_sem, Nat.reduceEqDiff, Nat.reduceAdd, Nat.reduceLT, Nat.reduceLeDiff, reduceIte, and_self, decide_true, decide_false, beq_self_eq_true, g1, g2, g7, g17, d1, V_len, V_solid, V_take, V_drop, V_eta, WB50, snV, hotV, snSs, hotSs, WVH_eq hw, true_and, HCells, hd]
      rw [← hq]
end Go.Ab.T
end

section
namespace Go.Ab.T
set_option maxRecDepth 8000
set_option maxHeartbeats 4000000
theorem S_wbg (s : Sl) (m : Int) : writeCells (encS s) 1 [I64 m] = some (encS { s with bg := m }) := rfl
theorem S_wteam (s : Sl) (m : Int) : writeCells (encS s) 5 [I64 m] = some (encS { s with team := m }) := rfl
theorem Next_ok (h : Hs) (l : List Sl) (s : Sl) : RV ft 29 [encH h, encSs l, encS s] (.tup [I64 (nextE h l s).1, I64 (nextE h l s).2]) := by
  refine RV_of ft29 rfl ?_
  simp only [c29, r29]
  unfold nextE
  by_cases hc : chk h l = 0
  case neg =>
    rw [if_neg hc]
    simp only [go_sem, Nat.reduceEqDiff, Nat.reduceAdd, Nat.reduceLT, Nat.reduceLeDiff, reduceIte, and_self, decide_true, decide_false, beq_self_eq_true, HCells, HEta, SCells, WB31, snH, hotH, snSs, hotSs, WVH_eq (Check_ok h l), chk_ne hc, true_and]
  rw [if_pos hc]
  have hV := chk_0.1 hc
  have hH := hV.H
  have hl12 := hV.len
  cases h12 : ((l.length : Int) == 12)
  case true =>
    have : l.length = 12 := by have : (l.length : Int) = 12 := by simpa using h12
                               omega
    rw [if_pos (.inl this)]
    simp only [go_sem, Nat.reduceEqDiff, Nat.reduceAdd, Nat.reduceLT, Nat.reduceLeDiff, reduceIte, and_self, decide_true, decide_false, beq_self_eq_true, HCells, HEta, SCells, WB31, snH, hotH, snSs, hotSs, WVH_eq (Check_ok h l), chk_eq hc, true_and, Ss_len, h12]
  have hn12 : ¬l.length = 12 := by intro h; simp [h] at h12
  cases hs : slotOK h s
  case false =>
    rw [if_pos (.inr rfl)]
    simp only [go_sem, Nat.reduceEqDiff, Nat.reduceAdd, Nat.reduceLT, Nat.reduceLeDiff, reduceIte, and_self, decide_true, decide_false, beq_self_eq_true, HCells, HEta, SCells, SEta, WB31, snH, hotH, snSs, hotSs, WVH_eq (Check_ok h l), chk_eq hc, true_and, Ss_len, h12, WB54, snS, hotS, WVH_eq (canBeSlot_ok h s hH), hs]
  rw [if_neg (fun h => h.elim hn12 (by simp))]
  have hSV := slotOK_iff.1 hs
  obtain ⟨z, hz⟩ : ∃ z : Nat, z = 2001 := ⟨_, rfl⟩
  have hce : nextGo h l s 2001 0 = nextGo h l s z 0 := by rw [hz]
  rw [hce]
  simp only [go_sem, Nat.reduceEqDiff, Nat.reduceAdd, Nat.reduceLT, Nat.reduceLeDiff, reduceIte, and_self, decide_true, decide_false, beq_self_eq_true, HCells, HEta, SCells, SEta, WB31, snH, hotH, snSs, hotSs, WVH_eq (Check_ok h l), chk_eq hc, true_and, Ss_len, h12, WB54, snS, hotS, WVH_eq (canBeSlot_ok h s hH), hs, WB43, WVH_eq (latest_ok h), V_len, V_solid, V_take, V_drop, V_eta]
  refine WL_inv (α := Nat × List Sl × (Int → Int) × (Int → Int)) (fun q e mm => e 1 = encSs l ∧ e 3 = .ptr 0 0 0 ∧ e 5 = .ptr 1 0 0 ∧ e 9 = .ptr 2 0 0 ∧ e 30 = encSs l ∧ e 31 = I64 l.length ∧ e 32 = I64 q.1 ∧ l.drop q.1 = q.2.1 ∧ stL h true q.2.1 q.2.2.1 q.2.2.2 = stL h true l zeroI zeroI ∧
      Bd (2000 + 1600 * q.1) q.2.2.1 ∧ Bd (2000 + 1600 * q.1) q.2.2.2 ∧ q.1 ≤ l.length ∧ ∃ bl tk, mm = ⟨bl, tk⟩ ∧ bl[2]? = some (.live [encV h true q.2.2.1 q.2.2.2] 21) ∧ bl[1]? = some (.live [encS s] 6)) (fun q => q.2.1.length) (0, l, zeroI, zeroI) ?_ ?_
  · simp only [go_sem, Nat.reduceEqDiff, Nat.reduceAdd, Nat.reduceLT, Nat.reduceLeDiff, reduceIte, and_self, decide_true, decide_false, beq_self_eq_true]
    exact ⟨trivial, trivial, trivial, trivial, trivial, trivial, rfl, trivial, trivial, Bd_zero (by omega), Bd_zero (by omega), Nat.zero_le _, _, _, rfl, rfl, rfl⟩
  rintro ⟨k, r, rd, id⟩ e mm ⟨g1, g3, g5, g9, g30, g31, g32, hd, hst, hb1, hb2, hkl, bl, tk, rfl, b2, b1⟩
  dsimp only at g32 hd hst hb1 hb2 hkl b1 b2
  cases r with
  | cons x r =>
    obtain ⟨hk, hd2, hlt⟩ := drop_cons hd
    have hxm := List.mem_of_getElem? hk
    have hS := hV.S x hxm
    have x0 := hV.b0 x hxm
    have x1 := hV.b1 x hxm
    have a1 := after_ok hH hS x0 x1 hb1 hb2 (by omega) (by omega) true
    obtain ⟨n1, n2⟩ := Bd.nxt hH hS x0 x1 hb1 hb2 true
    simp only [go_sem, Nat.reduceEqDiff, Nat.reduceAdd, Nat.reduceLT, Nat.reduceLeDiff, reduceIte, and_self, decide_true, decide_false, beq_self_eq_true, g1, g3, g5, g9, g30, g31, g32, dec_lt hlt, Ss_idx _ hk, SCells, SEta, get_last, set_last, get_app1 b2, V_len, V_solid, V_take, V_drop, V_eta, WB46, snV, hotV, snS, hotS, WVH_eq a1, true_and, V_w, wrap_n1 k (by omega)]
    refine Nx_of (k + 1, r, nR h true x rd id, nI h true x rd id) (by simp) ?_
    simp only [go_sem, Nat.reduceEqDiff, Nat.reduceAdd, Nat.reduceLT, Nat.reduceLeDiff, reduceIte, and_self, decide_true, decide_false, beq_self_eq_true, g1, g3, g5, g9, g30, g31]
    exact ⟨trivial, trivial, trivial, trivial, trivial, trivial, trivial, hd2, by rw [← hst]; rfl, n1, n2, hlt, _, _, rfl, set_get (get_app1 b2 _) _, by rw [List.getElem?_set_ne (by omega)]; exact get_app1 b1 _⟩
  | nil =>
    have := drop_nil hd
    simp only [go_sem, Nat.reduceEqDiff, Nat.reduceAdd, Nat.reduceLT, Nat.reduceLeDiff, reduceIte, and_self, decide_true, decide_false, beq_self_eq_true, g1, g3, g5, g9, g30, g31, g32, dec_ge this]
    have hst' : (rd, id) = stL h true l zeroI zeroI := hst
    refine WL_inv (α := Nat × Nat) (fun q e mm => e 1 = encSs l ∧ e 5 = .ptr 1 0 0 ∧ e 9 = .ptr 2 0 0 ∧ e 40 = I64 q.1 ∧ q.1 + q.2 = z ∧ nextGo h l s q.2 q.1 = nextGo h l s z 0 ∧ ∃ bl tk s1, mm = ⟨bl, tk⟩ ∧ bl[2]? = some (.live [encV h true rd id] 21) ∧ bl[1]? = some (.live [encS s1] 6) ∧ ∀ m, writeCells (encS s1) 1 [I64 m] = some (encS { s with bg := m })) (fun q => q.2) (0, z) ?_ ?_
    · simp only [go_sem, Nat.reduceEqDiff, Nat.reduceAdd, Nat.reduceLT, Nat.reduceLeDiff, reduceIte, and_self, decide_true, decide_false, beq_self_eq_true, g1, g3, g5, g9]
      exact ⟨trivial, trivial, trivial, rfl, by omega, rfl, _, _, s, rfl, b2, b1, fun _ => rfl⟩
    clear g1 g3 g5 g9 g30 g31 g32 b1 b2 bl tk e
    rintro ⟨n, f⟩ e mm ⟨g1, g5, g9, g40, hkf, hq, bl, tk, s1, rfl, b2, b1, hs1⟩
    dsimp only at g40 hkf hq
    cases f with
    | zero =>
      have d1 : decide ((n : Int) < 2001) = false := decide_eq_false (by omega)
      simp only [go_sem, Nat.reduceEqDiff, Nat.reduceAdd, Nat.reduceLT, Nat.reduceLeDiff, reduceIte, and_self, decide_true, decide_false, beq_self_eq_true, g1, g5, g9, g40, d1]
      rw [← hq]; rfl
    | succ f =>
      have d1 : decide ((n : Int) < 2001) = true := decide_eq_true (by omega)
      have hs2 : SV h { s with bg := (n : Int) } := ⟨hSV.s0, hSV.s1, hSV.r0, hSV.r1, hSV.r2, hSV.c0, hSV.c1, hSV.t0, hSV.t1⟩
      have hcb := comesBehind_ok l { s with bg := (n : Int) } (by omega)
      have hdl : RV ft 47 [encV h true rd id, encS { s with bg := (n : Int) }] (.bool (decide ((n : Int) < (evH h true { s with bg := (n : Int) } rd id).start))) := delays_ok hH hs2 (show 0 ≤ (n : Int) by omega) (show (n : Int) ≤ 2000 by omega) hb1 hb2 (by omega) (by omega) true
      have hno : nextOK h l s n = (behind l { s with bg := (n : Int) } && !decide ((n : Int) < (evH h true { s with bg := (n : Int) } rd id).start)) := by
        unfold nextOK; rw [← hst']
      rw [nextGo, hno] at hq
      have hs3 := hs1 (n : Int)
      have hw3 : ∀ m, writeCells (encS { s with bg := (n : Int) }) 1 [I64 m] = some (encS { s with bg := m }) := fun _ => rfl
      generalize ({ s with bg := (n : Int) } : Sl) = s2 at *
      cases h1 : behind l s2
      · rw [h1] at hq
        simp only [go_sem, Nat.reduceEqDiff, Nat.reduceAdd, Nat.reduceLT, Nat.reduceLeDiff, reduceIte, and_self, decide_true, decide_false, beq_self_eq_true, g1, g5, g9, g40, d1, get_last, set_last, b1, b2, hs3, SCells, SEta, set_get b1, set1_get2, V_len, V_solid, V_take, V_drop, V_eta, WB55, snSs, hotSs, snS, hotS, WVH_eq hcb, h1, true_and, wrap_n1 n (by omega)]
        refine Nx_of (n + 1, f) (by simp) ?_
        simp only [go_sem, Nat.reduceEqDiff, Nat.reduceAdd, Nat.reduceLT, Nat.reduceLeDiff, reduceIte, and_self, decide_true, decide_false, beq_self_eq_true, g1, g5, g9]
        exact ⟨trivial, trivial, trivial, trivial, by omega, by rw [← hq]; push_cast; rfl, _, _, s2, rfl, by rw [set1_get2]; exact b2, set_get b1 _, hw3⟩
      cases h2 : decide ((n : Int) < (evH h true s2 rd id).start)
      · rw [h1, h2] at hq
        simp only [go_sem, Nat.reduceEqDiff, Nat.reduceAdd, Nat.reduceLT, Nat.reduceLeDiff, reduceIte, and_self, decide_true, decide_false, beq_self_eq_true, g1, g5, g9, g40, d1, get_last, set_last, b1, b2, hs3, SCells, SEta, set_get b1, set1_get2, V_len, V_solid, V_take, V_drop, V_eta, WB55, snSs, hotSs, snS, hotS, WVH_eq hcb, h1, true_and, WB47, snV, hotV, WVH_eq hdl, h2]
        rw [← hq]; rfl
      · rw [h1, h2] at hq
        simp only [go_sem, Nat.reduceEqDiff, Nat.reduceAdd, Nat.reduceLT, Nat.reduceLeDiff, reduceIte, and_self, decide_true, decide_false, beq_self_eq_true, g1, g5, g9, g40, d1, get_last, set_last, b1, b2, hs3, SCells, SEta, set_get b1, set1_get2, V_len, V_solid, V_take, V_drop, V_eta, WB55, snSs, hotSs, snS, hotS, WVH_eq hcb, h1, true_and, WB47, snV, hotV, WVH_eq hdl, h2, wrap_n1 n (by omega)]
        refine Nx_of (n + 1, f) (by simp) ?_
        simp only [go_sem, Nat.reduceEqDiff, Nat.reduceAdd, Nat.reduceLT, Nat.reduceLeDiff, reduceIte, and_self, decide_true, decide_false, beq_self_eq_true, g1, g5, g9]
        exact ⟨trivial, trivial, trivial, trivial, by omega, by rw [← hq]; push_cast; rfl, _, _, s2, rfl, by rw [set1_get2]; exact b2, set_get b1 _, hw3⟩
/-! ### The examples -/
def exH : Hs := ⟨1, 2, 15, 40, ⟨10, 20⟩, ⟨10, 15⟩⟩
def exL : List Sl := [⟨0, 100, ⟨90, 100⟩, 50, 0⟩, ⟨1, 110, ⟨60, 60⟩, 30, 0⟩, ⟨0, 230, ⟨90, 95⟩, 40, 0⟩]
def exS : Sl := ⟨0, 0, ⟨1, 1⟩, 40, 0⟩
theorem Example_ok : RV ft 41 [] (.tup [encH exH, encSs exL]) := by
  refine RV_of ft41 rfl ?_
  simp only [c41, r41]
  simp only [go_sem, Nat.reduceEqDiff, Nat.reduceAdd, Nat.reduceLT, Nat.reduceLeDiff, reduceIte, and_self, decide_true, decide_false, beq_self_eq_true]
  rfl
theorem ex_chk : chk exH exL = 0 := by decide
theorem ex_tz : (tE exH exL).length = 3 ∧ ∃ p, (tE exH exL)[1]? = some p ∧ p.1.ready = 215 ∧ p.2.ready = 237 := by
  unfold tE; rw [if_pos ex_chk]
  exact ⟨by rw [tz_len]; rfl, _, rfl, by decide, by decide⟩
theorem ex_wait : waitQ exH exL 95 = ((10, 20), 0) := by
  unfold waitQ; rw [if_pos ex_chk, if_pos (by decide)]
  have h1 : waitE exH false exL 95 = 10 := by decide
  have h2 : waitE exH true exL 95 = 20 := by decide
  rw [h1, h2]
theorem ex_next : nextE exH exL exS = (348, 0) := by
  unfold nextE
  rw [if_pos ex_chk, if_neg (by decide)]
  have hst : (stL exH true exL zeroI zeroI).1 0 = 344 := by decide
  have hok : ∀ n : Int, nextOK exH exL exS n = true → 348 ≤ n := by
    intro n hn
    unfold nextOK at hn
    rw [Bool.and_eq_true, Bool.not_eq_true', decide_eq_false_iff_not] at hn
    have h1 := hn.2
    have h2 : (evH exH true { exS with bg := n } (stL exH true exL zeroI zeroI).1 (stL exH true exL zeroI zeroI).2).start = max n (max (comeOf 15 { exS with bg := n }) 344 + 4) := by
      unfold evH evIt itOf evOf
      dsimp only
      rw [show ({ exS with bg := n } : Sl).screen = 0 from rfl, hst]; rfl
    rw [h2] at h1
    omega
  have h348 : nextOK exH exL exS 348 = true := by decide
  rcases nextGo_spec exH exL exS 2001 0 with ⟨_, h⟩ | ⟨n, h1, h2, h3, h4, h5⟩
  · have := h 348 (by omega) (by omega)
    rw [h348] at this; cases this
  · have h6 := hok n h4
    have h7 : ¬348 < n := fun h => by have := h5 348 (by omega) h; rw [h348] at this; cases this
    rw [h1, show n = 348 by omega]
theorem Ms_idx1 {l : List (Ev × Ev)} {p : Ev × Ev} (m : Mem) (h : l[1]? = some p) : idxAt m (encMs l) (I64 1) 10 = some (.pv (encM p) 0) := Ms_idx (k := 1) m h
theorem works_ok : RV ft 15 [] (.bool true) := by
  refine RV_of ft15 rfl ?_
  simp only [c15, r15]
  obtain ⟨hl3, p, hp, r1, r2⟩ := ex_tz
  have hT := Times_ok exH exL
  have hW := Waiting_ok exH exL 95
  have hN := Next_ok exH exL exS
  rw [ex_chk] at hT
  rw [ex_wait] at hW
  rw [ex_next] at hN
  have hS : AV.agg [I64 0, I64 0, I64 1, I64 1, I64 40, I64 0] = encS exS := rfl
  have hlen : ((tE exH exL).length : Int) = 3 := by omega
  simp only [go_sem, Nat.reduceEqDiff, Nat.reduceAdd, Nat.reduceLT, Nat.reduceLeDiff, reduceIte, and_self, decide_true, decide_false, beq_self_eq_true, WB41, WVH_eq Example_ok, HCells, HEta, WB16, snH, hotH, snSs, hotSs, WVH_eq hT, WB21, WVH_eq hW, hS, WB29, snS, hotS, WVH_eq hN, true_and, Ms_len, hlen, Ms_idx1 _ hp, MCells, r1, r2, Bool.false_eq_true, if_false]
end Go.Ab.T
end
