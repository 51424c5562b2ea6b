/-
  A part of the proofs over this seat.
  (The texts KzM4 KzK10, one behind the other.)
-/
import Derived.Test.YtedkegliicileaaP2
set_option linter.unusedSimpArgs false
set_option linter.unusedVariables false
set_option linter.unusedSectionVars false
section
namespace Go.Ab.T
/-! ### What holds in every case -/
structure IW (rate : Int) (x : It) : Prop where
  pa : 0 ≤ pas x.s.crowd rate
  run : 0 ≤ x.run
  clean : 0 ≤ x.clean
theorem sim_cons (early rate walk : Int) (x : It) (l : List It) (rd id : Int → Int) : sim early rate walk (x :: l) rd id = evIt early rate x rd id :: sim early rate walk l (setI rd x.s.screen (evIt early rate x rd id).ready) (setI id x.s.team ((evIt early rate x rd id).ready + walk)) := rfl
theorem evIt_up {early rate : Int} {x : It} (hw : IW rate x) (rd id : Int → Int) : rd x.s.screen ≤ (evIt early rate x rd id).ready ∧ (evIt early rate x rd id).enter ≤ (evIt early rate x rd id).seated ∧
    (evIt early rate x rd id).seated ≤ (evIt early rate x rd id).start ∧ (evIt early rate x rd id).start + x.run ≤ (evIt early rate x rd id).empty ∧ (evIt early rate x rd id).empty + x.clean ≤ (evIt early rate x rd id).ready ∧
    rd x.s.screen ≤ (evIt early rate x rd id).enter ∧ comeOf early x.s ≤ (evIt early rate x rd id).enter ∧ x.s.bg ≤ (evIt early rate x rd id).start ∧ id x.s.team + x.clean ≤ (evIt early rate x rd id).ready :=
  evOf_up hw.pa hw.run hw.clean
theorem sim_up {early rate walk : Int} : ∀ {l : List It} (_ : ∀ x ∈ l, IW rate x) {rd id : Int → Int} (i : Nat) x e, l[i]? = some x → (sim early rate walk l rd id)[i]? = some e →
    e.enter ≤ e.seated ∧ e.seated ≤ e.start ∧ e.start + x.run ≤ e.empty ∧ e.empty + x.clean ≤ e.ready ∧ comeOf early x.s ≤ e.enter ∧ x.s.bg ≤ e.start
  | [], _, _, _, i, x, e, h, _ => by simp at h
  | y :: l, hw, rd, id, i, x, e, hx, he => by
    rw [sim_cons] at he
    cases i with
    | zero =>
      simp at hx he; subst hx; subst he
      have := evIt_up (early := early) (hw y (by simp)) rd id
      exact ⟨this.2.1, this.2.2.1, this.2.2.2.1, this.2.2.2.2.1, this.2.2.2.2.2.2.1, this.2.2.2.2.2.2.2.1⟩
    | succ i =>
      rw [List.getElem?_cons_succ] at hx he
      exact sim_up (l := l) (fun x hx => hw x (List.mem_cons_of_mem _ hx)) i x e hx he
theorem setI_ge {f g : Int → Int} (h : ∀ k, f k ≤ g k) {k v : Int} (hv : f k ≤ v) : ∀ n, f n ≤ setI g k v n := by
  intro n; unfold setI; split
  · rename_i he; rw [he]; exact hv
  · exact h n
theorem sim_ge {early rate walk : Int} (hk : 0 ≤ walk) : ∀ {l : List It} (_ : ∀ x ∈ l, IW rate x) {rd0 id0 rd id : Int → Int} (_ : ∀ k, rd0 k ≤ rd k) (_ : ∀ k, id0 k ≤ id k) (i : Nat) x e, l[i]? = some x → (sim early rate walk l rd id)[i]? = some e →
    rd0 x.s.screen ≤ e.enter ∧ id0 x.s.team + x.clean ≤ e.ready
  | [], _, _, _, _, _, _, _, i, x, e, h, _ => by simp at h
  | y :: l, hw, rd0, id0, rd, id, h1, h2, i, x, e, hx, he => by
    rw [sim_cons] at he
    have hy := hw y (by simp)
    have hu := evIt_up (early := early) hy rd id
    cases i with
    | zero =>
      simp at hx he; subst hx; subst he
      have a1 := h1 y.s.screen
      have a2 := h2 y.s.team
      exact ⟨by omega, by omega⟩
    | succ i =>
      have hcl := hy.clean
      rw [List.getElem?_cons_succ] at hx he
      have a1 := h1 y.s.screen
      have a2 := h2 y.s.team
      refine sim_ge hk (l := l) (fun x hx => hw x (List.mem_cons_of_mem _ hx)) ?_ ?_ i x e hx he
      · exact setI_ge h1 (by omega)
      · exact setI_ge h2 (by omega)
/-- Nobody enters before the screen is clean; a team walks between. -/
theorem sim_back {early rate walk : Int} (hk : 0 ≤ walk) : ∀ {l : List It} (_ : ∀ x ∈ l, IW rate x) {rd id : Int → Int} (k i : Nat) x y a b, k < i → l[k]? = some x → l[i]? = some y → (sim early rate walk l rd id)[k]? = some a → (sim early rate walk l rd id)[i]? = some b →
    (x.s.screen = y.s.screen → a.ready ≤ b.enter) ∧ (x.s.team = y.s.team → a.ready + walk + y.clean ≤ b.ready)
  | [], _, _, _, k, i, x, y, a, b, _, h, _, _, _ => by simp at h
  | z :: l, hw, rd, id, k, 0, x, y, a, b, hki, _, _, _, _ => by omega
  | z :: l, hw, rd, id, 0, i + 1, x, y, a, b, _, hx, hy, ha, hb => by
    rw [sim_cons] at ha hb
    simp at hx ha hy hb; subst hx; subst ha
    have := sim_ge hk (l := l) (fun x hx => hw x (List.mem_cons_of_mem _ hx)) (fun _ => Int.le_refl _) (fun _ => Int.le_refl _) i y b hy hb
    refine ⟨fun he => ?_, fun he => ?_⟩
    · have := this.1; unfold setI at this; rw [if_pos he.symm] at this; exact this
    · have := this.2; unfold setI at this; rw [if_pos he.symm] at this; exact this
  | z :: l, hw, rd, id, k + 1, i + 1, x, y, a, b, hki, hx, hy, ha, hb => by
    rw [sim_cons] at ha hb
    rw [List.getElem?_cons_succ] at hx hy ha hb
    exact sim_back hk (l := l) (fun x hx => hw x (List.mem_cons_of_mem _ hx)) k i x y a b (by omega) hx hy ha hb
theorem itOf_IW {h : Hs} {s : Sl} (hH : HV h) (hS : SV h s) (hi : Bool) : IW (rateOf h hi) (itOf h hi s) := by
  have hr : 1 ≤ rateOf h hi := by
    have := hH.d0; have := hH.d1
    unfold rateOf; cases hi <;> simp <;> omega
  have h1 : 1 ≤ s.runs.of hi := by
    have := hS.r0; have := hS.r1
    unfold Sp.of; cases hi <;> simp <;> omega
  have h2 : 1 ≤ h.clean.of hi := by
    have := hH.c0; have := hH.c1
    unfold Sp.of; cases hi <;> simp <;> omega
  exact ⟨pas_nn hS.c0 hr, by show 0 ≤ s.runs.of hi; omega, by show 0 ≤ h.clean.of hi; omega⟩
theorem simH_get {h : Hs} {hi : Bool} {l : List Sl} {rd id : Int → Int} {i : Nat} (hi' : i < l.length) : ∃ e, (simH h hi l rd id)[i]? = some e := ⟨_, List.getElem?_eq_getElem (by rw [simH_len]; exact hi')⟩
theorem tz_get {h : Hs} {l : List Sl} {i : Nat} {p : Ev × Ev} : (tz h l)[i]? = some p ↔ (simH h false l zeroI zeroI)[i]? = some p.1 ∧ (simH h true l zeroI zeroI)[i]? = some p.2 := by
  unfold tz; rw [List.getElem?_zip_eq_some]
theorem map_get {α β : Type} {f : α → β} {l : List α} {i : Nat} {x : α} (h : l[i]? = some x) : (l.map f)[i]? = some (f x) := by rw [List.getElem?_map, h]; rfl
theorem simH_up {h : Hs} {l : List Sl} (hV : LV h l) (hi : Bool) {i : Nat} {s : Sl} {e : Ev} (hs : l[i]? = some s) (he : (simH h hi l zeroI zeroI)[i]? = some e) :
    e.enter ≤ e.seated ∧ e.seated ≤ e.start ∧ e.start + s.runs.of hi ≤ e.empty ∧ e.empty + h.clean.of hi ≤ e.ready ∧ comeOf h.early s ≤ e.enter ∧ s.bg ≤ e.start :=
  sim_up (l := l.map (itOf h hi)) (fun x hx => by obtain ⟨s, hs, rfl⟩ := List.mem_map.1 hx; exact itOf_IW hV.H (hV.S s hs) hi) i _ e (map_get hs) he
theorem simH_back {h : Hs} {l : List Sl} (hV : LV h l) (hi : Bool) {k i : Nat} {x y : Sl} {a b : Ev} (hki : k < i) (hx : l[k]? = some x) (hy : l[i]? = some y) (ha : (simH h hi l zeroI zeroI)[k]? = some a) (hb : (simH h hi l zeroI zeroI)[i]? = some b) :
    (x.screen = y.screen → a.ready ≤ b.enter) ∧ (x.team = y.team → a.ready + h.walk + h.clean.of hi ≤ b.ready) :=
  sim_back hV.H.w0 (l := l.map (itOf h hi)) (fun x hx => by obtain ⟨s, hs, rfl⟩ := List.mem_map.1 hx; exact itOf_IW hV.H (hV.S s hs) hi) k i _ _ a b hki (map_get hx) (map_get hy) ha hb
theorem simH_lohi {h : Hs} {l : List Sl} (hV : LV h l) {i : Nat} {a b : Ev} (ha : (simH h false l zeroI zeroI)[i]? = some a) (hb : (simH h true l zeroI zeroI)[i]? = some b) : a.le b := by
  have hH := hV.H
  refine sim_mono (rate := rateOf h false) (rate' := rateOf h true) hH.d0 hH.d1 (Int.le_refl _) (by simp) (fun j x y hx hy => ?_) (fun _ => Int.le_refl _) (fun _ => Int.le_refl _) i a b ha hb
  rw [List.getElem?_map] at hx hy
  cases hs : l[j]? with
  | none => rw [hs] at hx; cases hx
  | some s =>
    rw [hs] at hx hy; cases hx; cases hy
    have hS := hV.S s (List.mem_of_getElem? hs)
    exact ⟨rfl, rfl, rfl, rfl, hS.r1, hH.c1, hS.c0⟩
theorem lateGo_spec (h : Hs) : ∀ (l : List Sl) (rd id : Int → Int) (n : Int), (lateGo h l rd id n = (-1, 0) ∧ ∀ (i : Nat) s e, l[i]? = some s → (simH h true l rd id)[i]? = some e → e.start ≤ s.bg) ∨
    ∃ (i : Nat) (s : Sl) (e : Ev), l[i]? = some s ∧ (simH h true l rd id)[i]? = some e ∧ s.bg < e.start ∧ lateGo h l rd id n = (n + i, e.start - s.bg) ∧ ∀ (j : Nat) s e, j < i → l[j]? = some s → (simH h true l rd id)[j]? = some e → e.start ≤ s.bg
  | [], rd, id, n => .inl ⟨rfl, fun i s e h => by simp at h⟩
  | x :: l, rd, id, n => by
    rw [simH_cons, lateGo]
    by_cases hx : x.bg < (evH h true x rd id).start
    · rw [if_pos hx]
      exact .inr ⟨0, x, _, rfl, rfl, hx, by simp, fun j s e hj => by omega⟩
    · rw [if_neg hx]
      rcases lateGo_spec h l (setI rd x.screen (evH h true x rd id).ready) (setI id x.team ((evH h true x rd id).ready + h.walk)) (n + 1) with ⟨h1, h2⟩ | ⟨i, s, e, h1, h2, h3, h4, h5⟩
      · refine .inl ⟨h1, fun i s e hs he => ?_⟩
        cases i with
        | zero => simp at hs he; subst hs; subst he; omega
        | succ i => exact h2 i s e (by simpa using hs) (by simpa using he)
      · refine .inr ⟨i + 1, s, e, by simpa using h1, by simpa using h2, h3, by rw [h4]; congr 1; push_cast; omega, fun j s' e' hj hs he => ?_⟩
        cases j with
        | zero => simp at hs he; subst hs; subst he; omega
        | succ j => exact h5 j s' e' (by omega) (by simpa using hs) (by simpa using he)
/-- What Late tells. -/
theorem late_spec {h : Hs} {l : List Sl} (hV : LV h l) : (lateE h l = (-1, 0) ∧ ∀ (i : Nat) s e, l[i]? = some s → (simH h true l zeroI zeroI)[i]? = some e → e.start ≤ s.bg) ∨
    ∃ (i : Nat) (s : Sl) (e : Ev), l[i]? = some s ∧ (simH h true l zeroI zeroI)[i]? = some e ∧ s.bg < e.start ∧ lateE h l = ((i : Int), e.start - s.bg) ∧ ∀ (j : Nat) s e, j < i → l[j]? = some s → (simH h true l zeroI zeroI)[j]? = some e → e.start ≤ s.bg := by
  have := lateGo_spec h l zeroI zeroI 0
  unfold lateE
  rw [if_pos (chk_0.2 hV)]
  simpa using this
/-! ### Cases lie between the bounds -/
theorem case_IB {h : Hs} {l : List Sl} {rs cs : List Int} {rate : Int} (hV : LV h l) (hC : CV h l rs cs rate) : ∀ x ∈ mkIts l rs cs, IB x := by
  intro x hx
  rw [List.mem_iff_getElem?] at hx
  obtain ⟨i, hi⟩ := hx
  have hlt : i < l.length := by have := (List.getElem?_eq_some_iff.1 hi).1; rw [mkIts_len l rs cs hC.l1 hC.l2] at this; exact this
  obtain ⟨s, hs⟩ : ∃ s, l[i]? = some s := ⟨_, List.getElem?_eq_getElem hlt⟩
  obtain ⟨r, hr⟩ : ∃ r, rs[i]? = some r := ⟨_, List.getElem?_eq_getElem (by rw [hC.l1]; exact hlt)⟩
  obtain ⟨c, hc⟩ : ∃ c, cs[i]? = some c := ⟨_, List.getElem?_eq_getElem (by rw [hC.l2]; exact hlt)⟩
  rw [mkIts_get l rs cs i s r c hs hr hc] at hi
  cases hi
  have hm := List.mem_of_getElem? hs
  have hS := hV.S s hm
  have h1 := hC.rs i s r hs hr
  have h2 := hC.cs i c hc
  have := hS.r0; have := hS.r2; have := hV.H.c0; have := hV.H.c2
  exact ⟨hS.c0, hS.c1, hV.b0 s hm, hV.b1 s hm, by show 1 ≤ r; omega, by show r ≤ 400; omega, by show 1 ≤ c; omega, by show c ≤ 120; omega⟩
theorem case_mid {h : Hs} {l : List Sl} {rs cs : List Int} {rate : Int} (hV : LV h l) (hC : CV h l rs cs rate) {i : Nat} {a e b : Ev} (ha : (simH h false l zeroI zeroI)[i]? = some a)
    (he : (sim h.early rate h.walk (mkIts l rs cs) zeroI zeroI)[i]? = some e) (hb : (simH h true l zeroI zeroI)[i]? = some b) : a.le e ∧ e.le b := by
  have hH := hV.H
  have hlen := mkIts_len l rs cs hC.l1 hC.l2
  have hget : ∀ (j : Nat) x, (mkIts l rs cs)[j]? = some x → ∃ s, l[j]? = some s ∧ x.s = s ∧ s.runs.lo ≤ x.run ∧ x.run ≤ s.runs.hi ∧ h.clean.lo ≤ x.clean ∧ x.clean ≤ h.clean.hi ∧ 0 ≤ s.crowd := by
    intro j x hx
    have hlt : j < l.length := by have := (List.getElem?_eq_some_iff.1 hx).1; omega
    obtain ⟨s, hs⟩ : ∃ s, l[j]? = some s := ⟨_, List.getElem?_eq_getElem hlt⟩
    obtain ⟨r, hr⟩ : ∃ r, rs[j]? = some r := ⟨_, List.getElem?_eq_getElem (by rw [hC.l1]; exact hlt)⟩
    obtain ⟨c, hc⟩ : ∃ c, cs[j]? = some c := ⟨_, List.getElem?_eq_getElem (by rw [hC.l2]; exact hlt)⟩
    rw [mkIts_get l rs cs j s r c hs hr hc] at hx
    cases hx
    exact ⟨s, hs, rfl, (hC.rs j s r hs hr).1, (hC.rs j s r hs hr).2, (hC.cs j c hc).1, (hC.cs j c hc).2, (hV.S s (List.mem_of_getElem? hs)).c0⟩
  have hd0 := hH.d0
  have h1 := hC.r0
  have h2 := hC.r1
  constructor
  · refine sim_mono (rate := rateOf h false) (rate' := rate) (by omega) h2 (Int.le_refl _) (by rw [hlen]; simp) (fun j x y hx hy => ?_) (fun _ => Int.le_refl _) (fun _ => Int.le_refl _) i a e ha he
    obtain ⟨s, hs, g1, g2, g3, g4, g5, g6⟩ := hget j y hy
    rw [List.getElem?_map, hs] at hx; cases hx
    exact ⟨by rw [g1]; rfl, by rw [g1]; rfl, by rw [g1]; rfl, by rw [g1]; rfl, g2, g4, g6⟩
  · refine sim_mono (rate := rate) (rate' := rateOf h true) hd0 h1 (Int.le_refl _) (by rw [hlen]; simp) (fun j x y hx hy => ?_) (fun _ => Int.le_refl _) (fun _ => Int.le_refl _) i e b he hb
    obtain ⟨s, hs, g1, g2, g3, g4, g5, g6⟩ := hget j x hx
    rw [List.getElem?_map, hs] at hy; cases hy
    exact ⟨by rw [g1]; rfl, by rw [g1]; rfl, by rw [g1]; rfl, by rw [g1]; rfl, g3, g5, by rw [g1]; exact g6⟩
end Go.Ab.T
end

section
namespace Go.Ab.T
set_option maxRecDepth 8000
set_option maxHeartbeats 4000000
theorem simH_bd {h : Hs} (hH : HV h) (hi : Bool) : ∀ {l : List Sl} (_ : ∀ s ∈ l, SV h s ∧ 0 ≤ s.bg ∧ s.bg ≤ 2000) {rd id : Int → Int} {c : Int} (_ : Bd c rd) (_ : Bd c id) (_ : 2000 ≤ c) (i : Nat) e, (simH h hi l rd id)[i]? = some e → 0 ≤ e.enter ∧ e.ready ≤ c + 1600 * (i + 1)
  | [], _, _, _, _, _, _, _, i, e, he => by simp [simH_nil] at he
  | s :: l, hl, rd, id, c, h1, h2, hc, i, e, he => by
    obtain ⟨hS, b0, b1⟩ := hl s (by simp)
    have hb := ev_b hH hS b0 b1 h1 h2 hc hi
    have := hH.w0
    have := hH.w1
    rw [simH_cons] at he
    cases i with
    | zero => simp at he; subst he; omega
    | succ i =>
      rw [List.getElem?_cons_succ] at he
      have := simH_bd hH hi (l := l) (fun s hs => hl s (List.mem_cons_of_mem _ hs)) (c := c + 1600) (h1.set (by omega) (by omega) (by omega)) (h2.set (by omega) (by omega) (by omega)) (by omega) i e he
      push_cast; omega
theorem simH_b {h : Hs} {l : List Sl} (hV : LV h l) (hi : Bool) {i : Nat} {e : Ev} (he : (simH h hi l zeroI zeroI)[i]? = some e) : 0 ≤ e.enter ∧ e.ready ≤ 30000 := by
  have hl := hV.len
  have hi' : i < l.length := by have := (List.getElem?_eq_some_iff.1 he).1; rw [simH_len] at this; exact this
  have := simH_bd hV.H hi (fun s hs => ⟨hV.S s hs, hV.b0 s hs, hV.b1 s hs⟩) (Bd_zero (c := 2000) (by omega)) (Bd_zero (by omega)) (by omega) i e he
  omega
theorem TimesV_ok {h : Hs} {l : List Sl} (hV : LV h l) : RV ft 16 [encH h, encSs l] (.tup [encMs (tz h l), I64 0]) := by
  have := Times_ok h l
  unfold tE at this
  rw [chk_0.2 hV] at this
  exact this
theorem LateV_ok {h : Hs} {l : List Sl} (hV : LV h l) : RV ft 17 [encH h, encSs l] (.tup [I64 (lateE h l).1, I64 (lateE h l).2, I64 0]) := by
  have := Late_ok h l
  rw [chk_0.2 hV] at this
  exact this
theorem TurnOne_run (h : Hs) (l : List Sl) : RV ft 4 [encH h, encSs l] (.bool true) := by
  refine RV_of ft4 rfl ?_
  simp only [c4, r4]
  cases hv : validL h l
  case false => simp only [go_sem, Nat.reduceEqDiff, Nat.reduceAdd, Nat.reduceLT, Nat.reduceLeDiff, reduceIte, and_self, decide_true, decide_false, beq_self_eq_true, HCells, HEta, WB13, snH, hotH, snSs, hotSs, WVH_eq (valid_ok h l), hv, true_and, WB15, WVH_eq works_ok]
  have hV := validL_iff.1 hv
  have hl12 := hV.len
  have hT := TimesV_ok hV
  have hlen : ((tz h l).length : Int) = l.length := by rw [tz_len]
  have hne : ((l.length : Int) != (l.length : Int)) = false := by simp
  have h00 : ((0 : Int) != 0) = false := rfl
  simp only [go_sem, Nat.reduceEqDiff, Nat.reduceAdd, Nat.reduceLT, Nat.reduceLeDiff, reduceIte, and_self, decide_true, decide_false, beq_self_eq_true, HCells, HEta, WB13, snH, hotH, snSs, hotSs, WVH_eq (valid_ok h l), hv, true_and, WB16, WVH_eq hT, Ms_len, Ss_len, hlen, hne, h00]
  refine WL_inv (α := Nat) (fun q e mm => e 1 = encSs l ∧ e 2 = .ptr 0 0 0 ∧ e 5 = encMs (tz h l) ∧ e 7 = I64 q ∧ ∃ bl tk, mm = ⟨bl, tk⟩ ∧ bl[0]? = some (.live [encH h] 8)) (fun q => l.length - q) 0 ?_ ?_
  · simp only [go_sem, Nat.reduceEqDiff, Nat.reduceAdd, Nat.reduceLT, Nat.reduceLeDiff, reduceIte, and_self, decide_true, decide_false, beq_self_eq_true]
    exact ⟨trivial, trivial, trivial, rfl, _, _, rfl, rfl⟩
  rintro i e mm ⟨g1, g2, g5, g7, bl, tk, rfl, b0⟩
  by_cases hlt : i < l.length
  case neg =>
    simp only [go_sem, Nat.reduceEqDiff, Nat.reduceAdd, Nat.reduceLT, Nat.reduceLeDiff, reduceIte, and_self, decide_true, decide_false, beq_self_eq_true, g1, g2, g5, g7, Ss_len, dec_ge (Nat.le_of_not_lt hlt), WB15, WVH_eq works_ok, true_and]
  obtain ⟨s, hs⟩ : ∃ s, l[i]? = some s := ⟨_, List.getElem?_eq_getElem hlt⟩
  obtain ⟨p, hp⟩ : ∃ p, (tz h l)[i]? = some p := ⟨_, List.getElem?_eq_getElem (by rw [tz_len]; exact hlt)⟩
  obtain ⟨p1, p2⟩ := tz_get.1 hp
  have hu1 := simH_up hV false hs p1
  have hu2 := simH_up hV true hs p2
  have hbd1 := simH_b hV false p1
  have hbd2 := simH_b hV true p2
  have hle := simH_lohi hV p1 p2
  obtain ⟨le1, le2, le3, le4, le5⟩ := hle
  have hS := hV.S s (List.mem_of_getElem? hs)
  have r0 := hS.r0
  have r1 := hS.r1
  have r2 := hS.r2
  have k0 := hV.H.c0
  have k1 := hV.H.c1
  have k2 := hV.H.c2
  have q0 := hV.H.w0
  have q1 := hV.H.w1
  have hb0 := hV.b0 s (List.mem_of_getElem? hs)
  simp only [Sp.of, Bool.false_eq_true, if_false, if_true] at hu1 hu2
  have w1 : IntKind.i64.wrap (p.1.start + s.runs.lo) = p.1.start + s.runs.lo := wrap_i64 _ (by omega) (by omega)
  have w2 : IntKind.i64.wrap (p.2.start + s.runs.hi) = p.2.start + s.runs.hi := wrap_i64 _ (by omega) (by omega)
  have w3 : IntKind.i64.wrap (p.1.empty + h.clean.lo) = p.1.empty + h.clean.lo := wrap_i64 _ (by omega) (by omega)
  have w4 : IntKind.i64.wrap (p.2.empty + h.clean.hi) = p.2.empty + h.clean.hi := wrap_i64 _ (by omega) (by omega)
  have a1 : decide (p.2.enter < p.1.enter) = false := decide_eq_false (by omega)
  have a2 : decide (p.2.seated < p.1.seated) = false := decide_eq_false (by omega)
  have a3 : decide (p.2.start < p.1.start) = false := decide_eq_false (by omega)
  have a4 : decide (p.2.empty < p.1.empty) = false := decide_eq_false (by omega)
  have a5 : decide (p.2.ready < p.1.ready) = false := decide_eq_false (by omega)
  have a6 : decide (p.1.seated < p.1.enter) = false := decide_eq_false (by omega)
  have a7 : decide (p.2.seated < p.2.enter) = false := decide_eq_false (by omega)
  have a8 : decide (p.1.start < p.1.seated) = false := decide_eq_false (by omega)
  have a9 : decide (p.2.start < p.2.seated) = false := decide_eq_false (by omega)
  have a10 : decide (p.1.start < s.bg) = false := decide_eq_false (by omega)
  have a11 : decide (p.1.empty < p.1.start + s.runs.lo) = false := decide_eq_false (by omega)
  have a12 : decide (p.2.empty < p.2.start + s.runs.hi) = false := decide_eq_false (by omega)
  have a13 : decide (p.1.ready < p.1.empty + h.clean.lo) = false := decide_eq_false (by omega)
  have a14 : decide (p.2.ready < p.2.empty + h.clean.hi) = false := decide_eq_false (by omega)
  simp only [go_sem, Nat.reduceEqDiff, Nat.reduceAdd, Nat.reduceLT, Nat.reduceLeDiff, reduceIte, and_self, decide_true, decide_false, beq_self_eq_true, g1, g2, g5, g7, Ss_len, dec_lt hlt, Ss_idx _ hs, Ms_idx _ hp, MCells, MEta, SCells, HCells, Nat.zero_add, get_last, set_last, get_app1 b0, w1, w2, w3, w4, a1, a2, a3, a4, a5, a6, a7, a8, a9, a10, a11, a12, a13, a14]
  refine WL_inv (α := Nat) (fun q e mm => e 1 = encSs l ∧ e 2 = .ptr 0 0 0 ∧ e 5 = encMs (tz h l) ∧ e 7 = I64 i ∧ e 8 = .ptr bl.length 0 0 ∧ e 9 = I64 q ∧ q ≤ i ∧ ∃ bl' tk, mm = ⟨bl', tk⟩ ∧ bl'[0]? = some (.live [encH h] 8) ∧ bl'[bl.length]? = some (.live [encM p] 10)) (fun q => i - q) 0 ?_ ?_
  · simp only [go_sem, Nat.reduceEqDiff, Nat.reduceAdd, Nat.reduceLT, Nat.reduceLeDiff, reduceIte, and_self, decide_true, decide_false, beq_self_eq_true, g1, g2, g5, g7]
    exact ⟨trivial, trivial, trivial, trivial, trivial, rfl, Nat.zero_le _, _, _, rfl, get_app1 b0 _, get_last _ _⟩
  clear g1 g2 g5 g7 e
  rintro k e mm ⟨g1, g2, g5, g7, g8, g9, hki, bl', tk', rfl, b0', b8⟩
  by_cases hk : k < i
  case neg =>
    obtain rfl : k = i := by omega
    simp only [go_sem, Nat.reduceEqDiff, Nat.reduceAdd, Nat.reduceLT, Nat.reduceLeDiff, reduceIte, and_self, decide_true, decide_false, beq_self_eq_true, g1, g2, g5, g7, g8, g9, dec_ge (Nat.le_refl k), wrap_n1 k (by omega)]
    refine Nx_of (k + 1) (by show l.length - (k + 1) < l.length - k; omega) ?_
    simp only [go_sem, Nat.reduceEqDiff, Nat.reduceAdd, Nat.reduceLT, Nat.reduceLeDiff, reduceIte, and_self, decide_true, decide_false, beq_self_eq_true, g1, g2, g5]
    exact ⟨trivial, trivial, trivial, trivial, _, _, rfl, b0'⟩
  obtain ⟨y, hy⟩ : ∃ y, l[k]? = some y := ⟨_, List.getElem?_eq_getElem (by omega)⟩
  obtain ⟨q, hq⟩ : ∃ q, (tz h l)[k]? = some q := ⟨_, List.getElem?_eq_getElem (by rw [tz_len]; omega)⟩
  obtain ⟨q1', q2'⟩ := tz_get.1 hq
  have hbq1 := simH_b hV false q1'
  have hbq2 := simH_b hV true q2'
  have huq1 := simH_up hV false hy q1'
  have huq2 := simH_up hV true hy q2'
  have hbk1 := simH_back hV false hk hy hs q1' p1
  have hbk2 := simH_back hV true hk hy hs q2' p2
  have ry := hV.S y (List.mem_of_getElem? hy)
  have ry0 := ry.r0
  have ry1 := ry.r1
  simp only [Sp.of, Bool.false_eq_true, if_false, if_true] at hbk1 hbk2 huq1 huq2
  have w5 : IntKind.i64.wrap (q.1.ready + h.walk) = q.1.ready + h.walk := wrap_i64 _ (by omega) (by omega)
  have w6 : IntKind.i64.wrap (q.1.ready + h.walk + h.clean.lo) = q.1.ready + h.walk + h.clean.lo := wrap_i64 _ (by omega) (by omega)
  have w7 : IntKind.i64.wrap (q.2.ready + h.walk) = q.2.ready + h.walk := wrap_i64 _ (by omega) (by omega)
  have w8 : IntKind.i64.wrap (q.2.ready + h.walk + h.clean.hi) = q.2.ready + h.walk + h.clean.hi := wrap_i64 _ (by omega) (by omega)
  have step : ∀ (t : Nat), t = t := fun _ => rfl
  cases hsc : (y.screen == s.screen)
  case' true =>
    have hsc' : y.screen = s.screen := by simpa using hsc
    have c1 : decide (p.1.enter < q.1.ready) = false := decide_eq_false (by have := hbk1.1 hsc'; omega)
    have c2 : decide (p.2.enter < q.2.ready) = false := decide_eq_false (by have := hbk2.1 hsc'; omega)
  case' false =>
    have c1 : True := trivial
    have c2 : True := trivial
  all_goals
    cases htm : (y.team == s.team)
    case' true =>
      have htm' : y.team = s.team := by simpa using htm
      have c3 : decide (p.1.ready < q.1.ready + h.walk + h.clean.lo) = false := decide_eq_false (by have := hbk1.2 htm'; omega)
      have c4 : decide (p.2.ready < q.2.ready + h.walk + h.clean.hi) = false := decide_eq_false (by have := hbk2.2 htm'; omega)
    case' false =>
      have c3 : True := trivial
      have c4 : True := trivial
  all_goals
    simp only [go_sem, Nat.reduceEqDiff, Nat.reduceAdd, Nat.reduceLT, Nat.reduceLeDiff, reduceIte, and_self, decide_true, decide_false, beq_self_eq_true, g1, g2, g5, g7, g8, g9, dec_lt hk, Ss_idx _ hs, Ss_idx _ hy, Ms_idx _ hq, MCells, MEta, SCells, HCells, Nat.zero_add, get_last, set_last, get_app1 b0', get_app1 b8, hsc, htm, c1, c2, c3, c4, w5, w6, w7, w8, wrap_n1 k (by omega)]
    refine Nx_of (k + 1) (by show i - (k + 1) < i - k; omega) ?_
    simp only [go_sem, Nat.reduceEqDiff, Nat.reduceAdd, Nat.reduceLT, Nat.reduceLeDiff, reduceIte, and_self, decide_true, decide_false, beq_self_eq_true, g1, g2, g5, g7, g8]
    exact ⟨trivial, trivial, trivial, trivial, trivial, trivial, by omega, _, _, rfl, get_app1 b0' _, get_app1 b8 _⟩
end Go.Ab.T
end
