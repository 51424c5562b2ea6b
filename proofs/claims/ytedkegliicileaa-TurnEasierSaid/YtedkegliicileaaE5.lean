/-
  A part of the proofs over this seat.
  (The texts KyM4 KyK10 KyM8 KyK17, one behind the other.)
-/
import Derived.Test.YtedkegliicileaaE4
set_option linter.unusedSimpArgs false
set_option linter.unusedVariables false
set_option linter.unusedSectionVars false
section
namespace Go.Ab.T
/-! ### What holds in every case -/
structure IW (rate : Int) (x : It) : Prop where
  pa : 0 ≤ pas x.s.crowd rate
  run : 0 ≤ x.run
  clean : 0 ≤ x.clean
theorem sim_cons (early rate walk : Int) (x : It) (l : List It) (rd id : Int → Int) : sim early rate walk (x :: l) rd id = evIt early rate x rd id :: sim early rate walk l (setI rd x.s.screen (evIt early rate x rd id).ready) (setI id x.s.team ((evIt early rate x rd id).ready + walk)) := rfl
theorem evIt_up {early rate : Int} {x : It} (hw : IW rate x) (rd id : Int → Int) : rd x.s.screen ≤ (evIt early rate x rd id).ready ∧ (evIt early rate x rd id).enter ≤ (evIt early rate x rd id).seated ∧
    (evIt early rate x rd id).seated ≤ (evIt early rate x rd id).start ∧ (evIt early rate x rd id).start + x.run ≤ (evIt early rate x rd id).empty ∧ (evIt early rate x rd id).empty + x.clean ≤ (evIt early rate x rd id).ready ∧
    rd x.s.screen ≤ (evIt early rate x rd id).enter ∧ comeOf early x.s ≤ (evIt early rate x rd id).enter ∧ x.s.bg ≤ (evIt early rate x rd id).start ∧ id x.s.team + x.clean ≤ (evIt early rate x rd id).ready :=
  evOf_up hw.pa hw.run hw.clean
theorem sim_up {early rate walk : Int} : ∀ {l : List It} (_ : ∀ x ∈ l, IW rate x) {rd id : Int → Int} (i : Nat) x e, l[i]? = some x → (sim early rate walk l rd id)[i]? = some e →
    e.enter ≤ e.seated ∧ e.seated ≤ e.start ∧ e.start + x.run ≤ e.empty ∧ e.empty + x.clean ≤ e.ready ∧ comeOf early x.s ≤ e.enter ∧ x.s.bg ≤ e.start
  | [], _, _, _, i, x, e, h, _ => by simp at h
  | y :: l, hw, rd, id, i, x, e, hx, he => by
    rw [sim_cons] at he
    cases i with
    | zero =>
      simp at hx he; subst hx; subst he
      have := evIt_up (early := early) (hw y (by simp)) rd id
      exact ⟨this.2.1, this.2.2.1, this.2.2.2.1, this.2.2.2.2.1, this.2.2.2.2.2.2.1, this.2.2.2.2.2.2.2.1⟩
    | succ i =>
      rw [List.getElem?_cons_succ] at hx he
      exact sim_up (l := l) (fun x hx => hw x (List.mem_cons_of_mem _ hx)) i x e hx he
theorem setI_ge {f g : Int → Int} (h : ∀ k, f k ≤ g k) {k v : Int} (hv : f k ≤ v) : ∀ n, f n ≤ setI g k v n := by
  intro n; unfold setI; split
  · rename_i he; rw [he]; exact hv
  · exact h n
theorem sim_ge {early rate walk : Int} (hk : 0 ≤ walk) : ∀ {l : List It} (_ : ∀ x ∈ l, IW rate x) {rd0 id0 rd id : Int → Int} (_ : ∀ k, rd0 k ≤ rd k) (_ : ∀ k, id0 k ≤ id k) (i : Nat) x e, l[i]? = some x → (sim early rate walk l rd id)[i]? = some e →
    rd0 x.s.screen ≤ e.enter ∧ id0 x.s.team + x.clean ≤ e.ready
  | [], _, _, _, _, _, _, _, i, x, e, h, _ => by simp at h
  | y :: l, hw, rd0, id0, rd, id, h1, h2, i, x, e, hx, he => by
    rw [sim_cons] at he
    have hy := hw y (by simp)
    have hu := evIt_up (early := early) hy rd id
    cases i with
    | zero =>
      simp at hx he; subst hx; subst he
      have a1 := h1 y.s.screen
      have a2 := h2 y.s.team
      exact ⟨by omega, by omega⟩
    | succ i =>
      have hcl := hy.clean
      rw [List.getElem?_cons_succ] at hx he
      have a1 := h1 y.s.screen
      have a2 := h2 y.s.team
      refine sim_ge hk (l := l) (fun x hx => hw x (List.mem_cons_of_mem _ hx)) ?_ ?_ i x e hx he
      · exact setI_ge h1 (by omega)
      · exact setI_ge h2 (by omega)
/-- Nobody enters before the screen is clean; a team walks between. -/
theorem sim_back {early rate walk : Int} (hk : 0 ≤ walk) : ∀ {l : List It} (_ : ∀ x ∈ l, IW rate x) {rd id : Int → Int} (k i : Nat) x y a b, k < i → l[k]? = some x → l[i]? = some y → (sim early rate walk l rd id)[k]? = some a → (sim early rate walk l rd id)[i]? = some b →
    (x.s.screen = y.s.screen → a.ready ≤ b.enter) ∧ (x.s.team = y.s.team → a.ready + walk + y.clean ≤ b.ready)
  | [], _, _, _, k, i, x, y, a, b, _, h, _, _, _ => by simp at h
  | z :: l, hw, rd, id, k, 0, x, y, a, b, hki, _, _, _, _ => by omega
  | z :: l, hw, rd, id, 0, i + 1, x, y, a, b, _, hx, hy, ha, hb => by
    rw [sim_cons] at ha hb
    simp at hx ha hy hb; subst hx; subst ha
    have := sim_ge hk (l := l) (fun x hx => hw x (List.mem_cons_of_mem _ hx)) (fun _ => Int.le_refl _) (fun _ => Int.le_refl _) i y b hy hb
    refine ⟨fun he => ?_, fun he => ?_⟩
    · have := this.1; unfold setI at this; rw [if_pos he.symm] at this; exact this
    · have := this.2; unfold setI at this; rw [if_pos he.symm] at this; exact this
  | z :: l, hw, rd, id, k + 1, i + 1, x, y, a, b, hki, hx, hy, ha, hb => by
    rw [sim_cons] at ha hb
    rw [List.getElem?_cons_succ] at hx hy ha hb
    exact sim_back hk (l := l) (fun x hx => hw x (List.mem_cons_of_mem _ hx)) k i x y a b (by omega) hx hy ha hb
theorem itOf_IW {h : Hs} {s : Sl} (hH : HV h) (hS : SV h s) (hi : Bool) : IW (rateOf h hi) (itOf h hi s) := by
  have hr : 1 ≤ rateOf h hi := by
    have := hH.d0; have := hH.d1
    unfold rateOf; cases hi <;> simp <;> omega
  have h1 : 1 ≤ s.runs.of hi := by
    have := hS.r0; have := hS.r1
    unfold Sp.of; cases hi <;> simp <;> omega
  have h2 : 1 ≤ h.clean.of hi := by
    have := hH.c0; have := hH.c1
    unfold Sp.of; cases hi <;> simp <;> omega
  exact ⟨pas_nn hS.c0 hr, by show 0 ≤ s.runs.of hi; omega, by show 0 ≤ h.clean.of hi; omega⟩
theorem simH_get {h : Hs} {hi : Bool} {l : List Sl} {rd id : Int → Int} {i : Nat} (hi' : i < l.length) : ∃ e, (simH h hi l rd id)[i]? = some e := ⟨_, List.getElem?_eq_getElem (by rw [simH_len]; exact hi')⟩
theorem tz_get {h : Hs} {l : List Sl} {i : Nat} {p : Ev × Ev} : (tz h l)[i]? = some p ↔ (simH h false l zeroI zeroI)[i]? = some p.1 ∧ (simH h true l zeroI zeroI)[i]? = some p.2 := by
  unfold tz; rw [List.getElem?_zip_eq_some]
theorem map_get {α β : Type} {f : α → β} {l : List α} {i : Nat} {x : α} (h : l[i]? = some x) : (l.map f)[i]? = some (f x) := by rw [List.getElem?_map, h]; rfl
theorem simH_up {h : Hs} {l : List Sl} (hV : LV h l) (hi : Bool) {i : Nat} {s : Sl} {e : Ev} (hs : l[i]? = some s) (he : (simH h hi l zeroI zeroI)[i]? = some e) :
    e.enter ≤ e.seated ∧ e.seated ≤ e.start ∧ e.start + s.runs.of hi ≤ e.empty ∧ e.empty + h.clean.of hi ≤ e.ready ∧ comeOf h.early s ≤ e.enter ∧ s.bg ≤ e.start :=
  sim_up (l := l.map (itOf h hi)) (fun x hx => by obtain ⟨s, hs, rfl⟩ := List.mem_map.1 hx; exact itOf_IW hV.H (hV.S s hs) hi) i _ e (map_get hs) he
theorem simH_back {h : Hs} {l : List Sl} (hV : LV h l) (hi : Bool) {k i : Nat} {x y : Sl} {a b : Ev} (hki : k < i) (hx : l[k]? = some x) (hy : l[i]? = some y) (ha : (simH h hi l zeroI zeroI)[k]? = some a) (hb : (simH h hi l zeroI zeroI)[i]? = some b) :
    (x.screen = y.screen → a.ready ≤ b.enter) ∧ (x.team = y.team → a.ready + h.walk + h.clean.of hi ≤ b.ready) :=
  sim_back hV.H.w0 (l := l.map (itOf h hi)) (fun x hx => by obtain ⟨s, hs, rfl⟩ := List.mem_map.1 hx; exact itOf_IW hV.H (hV.S s hs) hi) k i _ _ a b hki (map_get hx) (map_get hy) ha hb
theorem simH_lohi {h : Hs} {l : List Sl} (hV : LV h l) {i : Nat} {a b : Ev} (ha : (simH h false l zeroI zeroI)[i]? = some a) (hb : (simH h true l zeroI zeroI)[i]? = some b) : a.le b := by
  have hH := hV.H
  refine sim_mono (rate := rateOf h false) (rate' := rateOf h true) hH.d0 hH.d1 (Int.le_refl _) (by simp) (fun j x y hx hy => ?_) (fun _ => Int.le_refl _) (fun _ => Int.le_refl _) i a b ha hb
  rw [List.getElem?_map] at hx hy
  cases hs : l[j]? with
  | none => rw [hs] at hx; cases hx
  | some s =>
    rw [hs] at hx hy; cases hx; cases hy
    have hS := hV.S s (List.mem_of_getElem? hs)
    exact ⟨rfl, rfl, rfl, rfl, hS.r1, hH.c1, hS.c0⟩
theorem lateGo_spec (h : Hs) : ∀ (l : List Sl) (rd id : Int → Int) (n : Int), (lateGo h l rd id n = (-1, 0) ∧ ∀ (i : Nat) s e, l[i]? = some s → (simH h true l rd id)[i]? = some e → e.start ≤ s.bg) ∨
    ∃ (i : Nat) (s : Sl) (e : Ev), l[i]? = some s ∧ (simH h true l rd id)[i]? = some e ∧ s.bg < e.start ∧ lateGo h l rd id n = (n + i, e.start - s.bg) ∧ ∀ (j : Nat) s e, j < i → l[j]? = some s → (simH h true l rd id)[j]? = some e → e.start ≤ s.bg
  | [], rd, id, n => .inl ⟨rfl, fun i s e h => by simp at h⟩
  | x :: l, rd, id, n => by
    rw [simH_cons, lateGo]
    by_cases hx : x.bg < (evH h true x rd id).start
    · rw [if_pos hx]
      exact .inr ⟨0, x, _, rfl, rfl, hx, by simp, fun j s e hj => by omega⟩
    · rw [if_neg hx]
      rcases lateGo_spec h l (setI rd x.screen (evH h true x rd id).ready) (setI id x.team ((evH h true x rd id).ready + h.walk)) (n + 1) with ⟨h1, h2⟩ | ⟨i, s, e, h1, h2, h3, h4, h5⟩
      · refine .inl ⟨h1, fun i s e hs he => ?_⟩
        cases i with
        | zero => simp at hs he; subst hs; subst he; omega
        | succ i => exact h2 i s e (by simpa using hs) (by simpa using he)
      · refine .inr ⟨i + 1, s, e, by simpa using h1, by simpa using h2, h3, by rw [h4]; congr 1; push_cast; omega, fun j s' e' hj hs he => ?_⟩
        cases j with
        | zero => simp at hs he; subst hs; subst he; omega
        | succ j => exact h5 j s' e' (by omega) (by simpa using hs) (by simpa using he)
/-- What Late tells. -/
theorem late_spec {h : Hs} {l : List Sl} (hV : LV h l) : (lateE h l = (-1, 0) ∧ ∀ (i : Nat) s e, l[i]? = some s → (simH h true l zeroI zeroI)[i]? = some e → e.start ≤ s.bg) ∨
    ∃ (i : Nat) (s : Sl) (e : Ev), l[i]? = some s ∧ (simH h true l zeroI zeroI)[i]? = some e ∧ s.bg < e.start ∧ lateE h l = ((i : Int), e.start - s.bg) ∧ ∀ (j : Nat) s e, j < i → l[j]? = some s → (simH h true l zeroI zeroI)[j]? = some e → e.start ≤ s.bg := by
  have := lateGo_spec h l zeroI zeroI 0
  unfold lateE
  rw [if_pos (chk_0.2 hV)]
  simpa using this
/-! ### Cases lie between the bounds -/
theorem case_IB {h : Hs} {l : List Sl} {rs cs : List Int} {rate : Int} (hV : LV h l) (hC : CV h l rs cs rate) : ∀ x ∈ mkIts l rs cs, IB x := by
  intro x hx
  rw [List.mem_iff_getElem?] at hx
  obtain ⟨i, hi⟩ := hx
  have hlt : i < l.length := by have := (List.getElem?_eq_some_iff.1 hi).1; rw [mkIts_len l rs cs hC.l1 hC.l2] at this; exact this
  obtain ⟨s, hs⟩ : ∃ s, l[i]? = some s := ⟨_, List.getElem?_eq_getElem hlt⟩
  obtain ⟨r, hr⟩ : ∃ r, rs[i]? = some r := ⟨_, List.getElem?_eq_getElem (by rw [hC.l1]; exact hlt)⟩
  obtain ⟨c, hc⟩ : ∃ c, cs[i]? = some c := ⟨_, List.getElem?_eq_getElem (by rw [hC.l2]; exact hlt)⟩
  rw [mkIts_get l rs cs i s r c hs hr hc] at hi
  cases hi
  have hm := List.mem_of_getElem? hs
  have hS := hV.S s hm
  have h1 := hC.rs i s r hs hr
  have h2 := hC.cs i c hc
  have := hS.r0; have := hS.r2; have := hV.H.c0; have := hV.H.c2
  exact ⟨hS.c0, hS.c1, hV.b0 s hm, hV.b1 s hm, by show 1 ≤ r; omega, by show r ≤ 400; omega, by show 1 ≤ c; omega, by show c ≤ 120; omega⟩
theorem case_mid {h : Hs} {l : List Sl} {rs cs : List Int} {rate : Int} (hV : LV h l) (hC : CV h l rs cs rate) {i : Nat} {a e b : Ev} (ha : (simH h false l zeroI zeroI)[i]? = some a)
    (he : (sim h.early rate h.walk (mkIts l rs cs) zeroI zeroI)[i]? = some e) (hb : (simH h true l zeroI zeroI)[i]? = some b) : a.le e ∧ e.le b := by
  have hH := hV.H
  have hlen := mkIts_len l rs cs hC.l1 hC.l2
  have hget : ∀ (j : Nat) x, (mkIts l rs cs)[j]? = some x → ∃ s, l[j]? = some s ∧ x.s = s ∧ s.runs.lo ≤ x.run ∧ x.run ≤ s.runs.hi ∧ h.clean.lo ≤ x.clean ∧ x.clean ≤ h.clean.hi ∧ 0 ≤ s.crowd := by
    intro j x hx
    have hlt : j < l.length := by have := (List.getElem?_eq_some_iff.1 hx).1; omega
    obtain ⟨s, hs⟩ : ∃ s, l[j]? = some s := ⟨_, List.getElem?_eq_getElem hlt⟩
    obtain ⟨r, hr⟩ : ∃ r, rs[j]? = some r := ⟨_, List.getElem?_eq_getElem (by rw [hC.l1]; exact hlt)⟩
    obtain ⟨c, hc⟩ : ∃ c, cs[j]? = some c := ⟨_, List.getElem?_eq_getElem (by rw [hC.l2]; exact hlt)⟩
    rw [mkIts_get l rs cs j s r c hs hr hc] at hx
    cases hx
    exact ⟨s, hs, rfl, (hC.rs j s r hs hr).1, (hC.rs j s r hs hr).2, (hC.cs j c hc).1, (hC.cs j c hc).2, (hV.S s (List.mem_of_getElem? hs)).c0⟩
  have hd0 := hH.d0
  have h1 := hC.r0
  have h2 := hC.r1
  constructor
  · refine sim_mono (rate := rateOf h false) (rate' := rate) (by omega) h2 (Int.le_refl _) (by rw [hlen]; simp) (fun j x y hx hy => ?_) (fun _ => Int.le_refl _) (fun _ => Int.le_refl _) i a e ha he
    obtain ⟨s, hs, g1, g2, g3, g4, g5, g6⟩ := hget j y hy
    rw [List.getElem?_map, hs] at hx; cases hx
    exact ⟨by rw [g1]; rfl, by rw [g1]; rfl, by rw [g1]; rfl, by rw [g1]; rfl, g2, g4, g6⟩
  · refine sim_mono (rate := rate) (rate' := rateOf h true) hd0 h1 (Int.le_refl _) (by rw [hlen]; simp) (fun j x y hx hy => ?_) (fun _ => Int.le_refl _) (fun _ => Int.le_refl _) i e b he hb
    obtain ⟨s, hs, g1, g2, g3, g4, g5, g6⟩ := hget j x hx
    rw [List.getElem?_map, hs] at hy; cases hy
    exact ⟨by rw [g1]; rfl, by rw [g1]; rfl, by rw [g1]; rfl, by rw [g1]; rfl, g3, g5, by rw [g1]; exact g6⟩
end Go.Ab.T
end

section
namespace Go.Ab.T
set_option maxRecDepth 8000
set_option maxHeartbeats 4000000
theorem simH_bd {h : Hs} (hH : HV h) (hi : Bool) : ∀ {l : List Sl} (_ : ∀ s ∈ l, SV h s ∧ 0 ≤ s.bg ∧ s.bg ≤ 2000) {rd id : Int → Int} {c : Int} (_ : Bd c rd) (_ : Bd c id) (_ : 2000 ≤ c) (i : Nat) e, (simH h hi l rd id)[i]? = some e → 0 ≤ e.enter ∧ e.ready ≤ c + 1600 * (i + 1)
  | [], _, _, _, _, _, _, _, i, e, he => by simp [simH_nil] at he
  | s :: l, hl, rd, id, c, h1, h2, hc, i, e, he => by
    obtain ⟨hS, b0, b1⟩ := hl s (by simp)
    have hb := ev_b hH hS b0 b1 h1 h2 hc hi
    have := hH.w0
    have := hH.w1
    rw [simH_cons] at he
    cases i with
    | zero => simp at he; subst he; omega
    | succ i =>
      rw [List.getElem?_cons_succ] at he
      have := simH_bd hH hi (l := l) (fun s hs => hl s (List.mem_cons_of_mem _ hs)) (c := c + 1600) (h1.set (by omega) (by omega) (by omega)) (h2.set (by omega) (by omega) (by omega)) (by omega) i e he
      push_cast; omega
theorem simH_b {h : Hs} {l : List Sl} (hV : LV h l) (hi : Bool) {i : Nat} {e : Ev} (he : (simH h hi l zeroI zeroI)[i]? = some e) : 0 ≤ e.enter ∧ e.ready ≤ 30000 := by
  have hl := hV.len
  have hi' : i < l.length := by have := (List.getElem?_eq_some_iff.1 he).1; rw [simH_len] at this; exact this
  have := simH_bd hV.H hi (fun s hs => ⟨hV.S s hs, hV.b0 s hs, hV.b1 s hs⟩) (Bd_zero (c := 2000) (by omega)) (Bd_zero (by omega)) (by omega) i e he
  omega
theorem TimesV_ok {h : Hs} {l : List Sl} (hV : LV h l) : RV ft 16 [encH h, encSs l] (.tup [encMs (tz h l), I64 0]) := by
  have := Times_ok h l
  unfold tE at this
  rw [chk_0.2 hV] at this
  exact this
theorem LateV_ok {h : Hs} {l : List Sl} (hV : LV h l) : RV ft 17 [encH h, encSs l] (.tup [I64 (lateE h l).1, I64 (lateE h l).2, I64 0]) := by
  have := Late_ok h l
  rw [chk_0.2 hV] at this
  exact this
end Go.Ab.T
end

section
namespace Go.Ab.T
/-! ### What is easier -/
def ezS (a : Int) (s : Sl) : Sl := { s with runs := ⟨max 1 (s.runs.lo - a), max 1 (s.runs.hi - a)⟩ }
def ezH (h : Hs) (c w d : Int) : Hs := ⟨h.teams, max 0 (h.walk - w), h.early, h.foyer, ⟨min 100 (h.doors.lo + d), min 100 (h.doors.hi + d)⟩, ⟨max 1 (h.clean.lo - c), max 1 (h.clean.hi - c)⟩⟩
theorem LV_ez {h : Hs} {l : List Sl} (hV : LV h l) {a c w d : Int} (ha : 0 ≤ a) (hc : 0 ≤ c) (hw : 0 ≤ w) (hd : 0 ≤ d) : LV (ezH h c w d) (l.map (ezS a)) := by
  have hH := hV.H
  refine ⟨⟨hH.t0, hH.t1, ?_, ?_, hH.e0, hH.e1, hH.f0, hH.f1, ?_, ?_, ?_, ?_, ?_, ?_⟩, by rw [List.length_map]; exact hV.len, ?_, ?_, ?_, ?_⟩
  · show 0 ≤ max 0 (h.walk - w); omega
  · show max 0 (h.walk - w) ≤ 60; have := hH.w1; omega
  · show 1 ≤ min 100 (h.doors.lo + d); have := hH.d0; omega
  · show min 100 (h.doors.lo + d) ≤ min 100 (h.doors.hi + d); have := hH.d1; omega
  · show min 100 (h.doors.hi + d) ≤ 100; omega
  · show 1 ≤ max 1 (h.clean.lo - c); omega
  · show max 1 (h.clean.lo - c) ≤ max 1 (h.clean.hi - c); have := hH.c1; omega
  · show max 1 (h.clean.hi - c) ≤ 120; have := hH.c2; omega
  · intro s hs
    obtain ⟨x, hx, rfl⟩ := List.mem_map.1 hs
    have hS := hV.S x hx
    refine ⟨hS.s0, hS.s1, ?_, ?_, ?_, hS.c0, hS.c1, hS.t0, hS.t1⟩
    · show 1 ≤ max 1 (x.runs.lo - a); omega
    · show max 1 (x.runs.lo - a) ≤ max 1 (x.runs.hi - a); have := hS.r1; omega
    · show max 1 (x.runs.hi - a) ≤ 400; have := hS.r2; omega
  · intro s hs
    obtain ⟨x, hx, rfl⟩ := List.mem_map.1 hs
    exact hV.b0 x hx
  · intro s hs
    obtain ⟨x, hx, rfl⟩ := List.mem_map.1 hs
    exact hV.b1 x hx
  · intro i j p q hij hp hq
    rw [List.getElem?_map] at hp hq
    obtain ⟨x, hx, rfl⟩ := Option.map_eq_some_iff.1 hp
    obtain ⟨y, hy, rfl⟩ := Option.map_eq_some_iff.1 hq
    exact hV.asc i j x y hij hx hy
theorem ez_le {h : Hs} {l : List Sl} (hV : LV h l) {a c w d : Int} (ha : 0 ≤ a) (hc : 0 ≤ c) (hw : 0 ≤ w) (hd : 0 ≤ d) (hi : Bool) {i : Nat} {p q : Ev} (hp : (simH (ezH h c w d) hi (l.map (ezS a)) zeroI zeroI)[i]? = some p) (hq : (simH h hi l zeroI zeroI)[i]? = some q) : p.le q := by
  have hH := hV.H
  refine sim_mono (rate := rateOf (ezH h c w d) hi) (rate' := rateOf h hi) ?_ ?_ ?_ (by simp) (fun j x y hx hy => ?_) (fun _ => Int.le_refl _) (fun _ => Int.le_refl _) i p q hp hq
  · have := hH.d0; have := hH.d1
    unfold rateOf; cases hi <;> simp <;> omega
  · have := hH.d1; have := hH.d2
    unfold rateOf ezH; cases hi <;> simp <;> omega
  · show max 0 (h.walk - w) ≤ h.walk; have := hH.w0; omega
  · rw [List.getElem?_map, List.getElem?_map] at hx
    rw [List.getElem?_map] at hy
    cases hs : l[j]? with
    | none => rw [hs] at hy; cases hy
    | some s =>
      rw [hs] at hx hy; cases hx; cases hy
      have hS := hV.S s (List.mem_of_getElem? hs)
      refine ⟨rfl, rfl, rfl, rfl, ?_, ?_, hS.c0⟩
      · show (ezS a s).runs.of hi ≤ s.runs.of hi
        have := hS.r0; have := hS.r1
        unfold ezS Sp.of; cases hi <;> simp <;> omega
      · show (ezH h c w d).clean.of hi ≤ h.clean.of hi
        have := hH.c0; have := hH.c1
        unfold ezH Sp.of; cases hi <;> simp <;> omega
theorem ez_late {h : Hs} {l : List Sl} (hV : LV h l) {a c w d : Int} (ha : 0 ≤ a) (hc : 0 ≤ c) (hw : 0 ≤ w) (hd : 0 ≤ d) : ((lateE h l).1 = -1 → (lateE (ezH h c w d) (l.map (ezS a))).1 = -1) ∧ (0 ≤ (lateE h l).1 → 0 ≤ (lateE (ezH h c w d) (l.map (ezS a))).1 → (lateE h l).1 ≤ (lateE (ezH h c w d) (l.map (ezS a))).1) := by
  have hV2 := LV_ez hV ha hc hw hd
  have key : ∀ (j : Nat) s' e', (l.map (ezS a))[j]? = some s' → (simH (ezH h c w d) true (l.map (ezS a)) zeroI zeroI)[j]? = some e' → s'.bg < e'.start → ∃ s e, l[j]? = some s ∧ (simH h true l zeroI zeroI)[j]? = some e ∧ s.bg < e.start := by
    intro j s' e' hs he hlt
    rw [List.getElem?_map] at hs
    obtain ⟨s, hs0, rfl⟩ := Option.map_eq_some_iff.1 hs
    obtain ⟨e, he2⟩ := simH_get (h := h) (hi := true) (l := l) (rd := zeroI) (id := zeroI) (i := j) (List.getElem?_eq_some_iff.1 hs0).1
    have := (ez_le hV ha hc hw hd true he he2).2.2.1
    exact ⟨s, e, hs0, he2, by have : (ezS a s).bg = s.bg := rfl; omega⟩
  rcases late_spec hV with ⟨h1, h2⟩ | ⟨j, s, e, h1, h2, h3, h4, h5⟩
  · rw [h1]
    refine ⟨fun _ => ?_, fun h => by simp at h⟩
    rcases late_spec hV2 with ⟨g1, _⟩ | ⟨k, s', e', g1, g2, g3, _⟩
    · rw [g1]
    · obtain ⟨s, e, k1, k2, k3⟩ := key k s' e' g1 g2 g3
      have := h2 k s e k1 k2; omega
  · rw [h4]
    refine ⟨fun h => by dsimp only at h; omega, fun _ hn => ?_⟩
    rcases late_spec hV2 with ⟨g1, _⟩ | ⟨k, s', e', g1, g2, g3, g4, _⟩
    · rw [g1] at hn; simp at hn
    · rw [g4]
      dsimp only
      obtain ⟨s, e, k1, k2, k3⟩ := key k s' e' g1 g2 g3
      refine Classical.byContradiction fun hlt => ?_
      have := h5 k s e (by omega) k1 k2; omega
end Go.Ab.T
end

section
namespace Go.Ab.T
set_option maxRecDepth 8000
set_option maxHeartbeats 4000000
theorem W_frz_of {s : St} {Q : Ex → St → Prop} (h : ∀ e : Nat → AV, (∀ n, e n = Ab.snap s.mem 9 (s.env n)) → ∀ m, Q .nxt ⟨e, m⟩) : W ft .frz s Q := by
  rw [W_frz]; exact h _ (fun _ => rfl) _
theorem snap_box {bl : List Blk} {tk : List (Nat × Nat)} {k id sz : Nat} {e : AV} (h : bl[id]? = some (.live [e] sz)) : Ab.snap ⟨bl, tk⟩ (k + 1) (.ptr id 0 0) = .pv (Ab.snap ⟨bl, tk⟩ k e) 0 := by
  simp [snap, h]
/-! ### A copy of slots in memory of its own -/
def cwV (i : Nat) (l : List Sl) : AV := if l.isEmpty then .sl [] .tight else .ref i 0 l.length
def cwB (l : List Sl) : List Blk := if l.isEmpty then [] else [.live (l.map encS) 6]
theorem copied_W (l : List Sl) (hl : l.length ≤ 1073741824) (K : AV → Mem → Prop) : @WRH ft (.f 20) [encSs l] ⟨[], []⟩ ⟨K⟩ = K (cwV 0 l) ⟨cwB l, []⟩ := by
  show WR ft (.f 20) [encSs l] ⟨[], []⟩ K = _
  rw [WR_f ft20 rfl]
  simp only [c20, r20]
  have ha : append0 ⟨[], []⟩ (.sl [] .tight) (encSs l) 6 48 = some (cwV 0 l, ⟨cwB l, []⟩) := by
    have h1 : hdSz (l.map encS) 6 = true := hdSz_map' encS 6 l fun _ => rfl
    cases l with
    | nil => rfl
    | cons x r =>
      have h2 : ((x :: r).map encS).length * (48 + 1) ≤ limit := by rw [List.length_map]; unfold limit; omega
      simp only [append0, elemsSs, h1, h2, cwV, cwB]
      simp [newBlk]
  simp only [go_sem, Nat.reduceEqDiff, Nat.reduceAdd, Nat.reduceLT, Nat.reduceLeDiff, reduceIte, and_self, decide_true, decide_false, beq_self_eq_true, ha]
theorem cw_shift (db dt : Nat) (l : List Sl) : Ab.shift db dt 9 (cwV 0 l) = cwV db l := by
  cases l <;> rfl
theorem cw_join (bl : List Blk) (tk : List (Nat × Nat)) (l : List Sl) : joinMem ⟨bl, tk⟩ ⟨cwB l, []⟩ 9 = ⟨bl ++ cwB l, tk⟩ := by
  cases l with
  | nil => simp [joinMem, cwB]
  | cons x r =>
    have : (cwB (x :: r)).map (shiftB bl.length tk.length 9) = cwB (x :: r) := by
      show [Blk.live (((x :: r).map encS).map (Ab.shift bl.length tk.length 9)) 6] = _
      rw [List.map_map]; rfl
    simp [joinMem, this]
theorem snap_os {bl : List Blk} {tk : List (Nat × Nat)} {o : List Sl} {n : Nat} (h : bl[2]? = some (.live (o.map encS) 6)) (hn : o.length = n) (q : Nat) : Ab.snap ⟨bl, tk⟩ (q + 3) (.ref 2 0 n) = encSs o := by
  have he : (Mem.mk bl tk).elems (.ref 2 0 n) = some (o.map encS) := by
    simp only [Mem.elems, h, List.length_map, Nat.zero_add, hn, Nat.le_refl, if_true, List.drop_zero]
    rw [List.take_of_length_le (by rw [List.length_map]; omega)]
  rw [snap_ref, he, snEs_some]
  unfold encSs
  rw [List.map_map]; congr 1
theorem eqvB (a b : Bool) : eqAV false [.b] (.bool a) (.bool b) = some (a == b) := by
  show eqs [.b] [.bool a] [.bool b] = _
  rw [eqs_b, eqs_nil]; simp
theorem mnl_min (a b c d : Int) : mnl false (I64 a) [I64 b, I64 c, I64 d] = some (I64 (min (min (min a b) c) d)) := by
  simp only [mnl, mnx_min, Option.bind_some]
theorem mnl_max (a b c d : Int) : mnl true (I64 a) [I64 b, I64 c, I64 d] = some (I64 (max (max (max a b) c) d)) := by
  simp only [mnl, mnx_max, Option.bind_some]
theorem S_wruns (s : Sl) (a b : Int) : writeCells (encS s) 2 [I64 a, I64 b] = some (encS { s with runs := ⟨a, b⟩ }) := rfl
theorem H_w1 (h : Hs) (w : Int) : writeCells (encH h) 1 [I64 w] = some (encH { h with walk := w }) := rfl
theorem H_w6 (h : Hs) (a b : Int) : writeCells (encH h) 6 [I64 a, I64 b] = some (encH { h with clean := ⟨a, b⟩ }) := rfl
theorem H_w4 (h : Hs) (a b : Int) : writeCells (encH h) 4 [I64 a, I64 b] = some (encH { h with doors := ⟨a, b⟩ }) := rfl
/-- The first k are eased. -/
def ezL (a : Int) (l : List Sl) (k : Nat) : List Sl := (l.take k).map (ezS a) ++ l.drop k
theorem ezL_get {a : Int} {l : List Sl} {k : Nat} {x : Sl} (h : l[k]? = some x) : (ezL a l k)[k]? = some x := by
  have hk := (List.getElem?_eq_some_iff.1 h).1
  unfold ezL
  rw [List.getElem?_append_right (by rw [List.length_map, List.length_take]; omega), List.length_map, List.length_take, Nat.min_eq_left (by omega), Nat.sub_self, List.getElem?_drop]
  exact h
theorem ezL_len (a : Int) (l : List Sl) (k : Nat) : (ezL a l k).length = l.length := by
  unfold ezL; rw [List.length_append, List.length_map, List.length_take, List.length_drop]; omega
theorem ezL_set {a : Int} {l : List Sl} {k : Nat} {x : Sl} (h : l[k]? = some x) : (ezL a l k).set k (ezS a x) = ezL a l (k + 1) := by
  have hk := (List.getElem?_eq_some_iff.1 h).1
  have hd : l.drop k = x :: l.drop (k + 1) := by
    rw [List.drop_eq_getElem_cons hk]; congr 1
    have := (List.getElem?_eq_some_iff.1 h).2; exact this
  have hlen : ((l.take k).map (ezS a)).length = k := by rw [List.length_map, List.length_take]; omega
  unfold ezL
  rw [take_snoc h, hd, List.set_append_right _ _ (by omega), hlen, Nat.sub_self, List.map_append]
  simp
theorem ezL_end (a : Int) (l : List Sl) : ezL a l l.length = l.map (ezS a) := by
  unfold ezL; simp
theorem TurnEasier_run (h : Hs) (l : List Sl) (a c w d : Int) : RV ft 5 [encH h, encSs l, .agg [I64 a, I64 c, I64 w, I64 d]] (.bool true) := by
  refine RV_of ft5 rfl ?_
  simp only [c5, r5]
  cases hv : validL h l
  case false => simp only [go_sem, Nat.reduceEqDiff, Nat.reduceAdd, Nat.reduceLT, Nat.reduceLeDiff, reduceIte, and_self, decide_true, decide_false, beq_self_eq_true, HCells, HEta, WB13, snH, hotH, snSs, hotSs, WVH_eq (valid_ok h l), hv, true_and, WB15, WVH_eq works_ok]
  have hV := validL_iff.1 hv
  have hH := hV.H
  have hl12 := hV.len
  cases hm0 : decide (min (min (min a c) w) d < 0)
  case true => simp only [go_sem, Nat.reduceEqDiff, Nat.reduceAdd, Nat.reduceLT, Nat.reduceLeDiff, reduceIte, and_self, decide_true, decide_false, beq_self_eq_true, HCells, HEta, WB13, snH, hotH, snSs, hotSs, WVH_eq (valid_ok h l), hv, true_and, Nat.zero_add, mnl_min, hm0, WB15, WVH_eq works_ok]
  cases hm1 : decide (1000 < max (max (max a c) w) d)
  case true => simp only [go_sem, Nat.reduceEqDiff, Nat.reduceAdd, Nat.reduceLT, Nat.reduceLeDiff, reduceIte, and_self, decide_true, decide_false, beq_self_eq_true, HCells, HEta, WB13, snH, hotH, snSs, hotSs, WVH_eq (valid_ok h l), hv, true_and, Nat.zero_add, mnl_min, hm0, mnl_max, hm1, WB15, WVH_eq works_ok]
  have hm0' := of_decide_eq_false hm0
  have hm1' := of_decide_eq_false hm1
  obtain ⟨a0, c0, w0, d0⟩ : 0 ≤ a ∧ 0 ≤ c ∧ 0 ≤ w ∧ 0 ≤ d := by omega
  obtain ⟨a1, c1, w1, d1⟩ : a ≤ 1000 ∧ c ≤ 1000 ∧ w ≤ 1000 ∧ d ≤ 1000 := by omega
  obtain ⟨g, hg⟩ : ∃ g, g = ezH h c w d := ⟨_, rfl⟩
  obtain ⟨o, ho⟩ : ∃ o, o = l.map (ezS a) := ⟨_, rfl⟩
  have hVg : LV g o := by rw [hg, ho]; exact LV_ez hV a0 c0 w0 d0
  have hT1 := TimesV_ok hV
  have hT2 := TimesV_ok hVg
  have hL1 := LateV_ok hV
  have hL2 := LateV_ok hVg
  have hlate := ez_late hV a0 c0 w0 d0
  rw [← hg, ← ho] at hlate
  have hle : ∀ (hi : Bool) (i : Nat) p q, (simH g hi o zeroI zeroI)[i]? = some p → (simH h hi l zeroI zeroI)[i]? = some q → p.le q := fun hi i p q hp hq => by
    rw [hg, ho] at hp; exact ez_le hV a0 c0 w0 d0 hi hp hq
  have hol : o.length = l.length := by rw [ho, List.length_map]
  have e2 := hH.w0; have e3 := hH.w1; have e4 := hH.c0; have e5 := hH.c1; have e6 := hH.c2; have e7 := hH.d0; have e8 := hH.d1; have e9 := hH.d2
  have x1 : IntKind.i64.wrap (h.walk - w) = h.walk - w := wrap_i64 _ (by omega) (by omega)
  have x2 : IntKind.i64.wrap (h.clean.lo - c) = h.clean.lo - c := wrap_i64 _ (by omega) (by omega)
  have x3 : IntKind.i64.wrap (h.clean.hi - c) = h.clean.hi - c := wrap_i64 _ (by omega) (by omega)
  have x4 : IntKind.i64.wrap (h.doors.lo + d) = h.doors.lo + d := wrap_i64 _ (by omega) (by omega)
  have x5 : IntKind.i64.wrap (h.doors.hi + d) = h.doors.hi + d := wrap_i64 _ (by omega) (by omega)
  obtain ⟨g1', hg1⟩ : ∃ g1', g1' = ({ h with walk := max 0 (h.walk - w) } : Hs) := ⟨_, rfl⟩
  obtain ⟨g2', hg2⟩ : ∃ g2', g2' = ({ g1' with clean := ⟨max 1 (h.clean.lo - c), max 1 (h.clean.hi - c)⟩ } : Hs) := ⟨_, rfl⟩
  have y1 : writeCells (encH h) 1 [I64 (max 0 (h.walk - w))] = some (encH g1') := by rw [hg1]; rfl
  have y2 : writeCells (encH g1') 6 [I64 (max 1 (h.clean.lo - c)), I64 (max 1 (h.clean.hi - c))] = some (encH g2') := by rw [hg2]; rfl
  have y3 : writeCells (encH g2') 4 [I64 (min 100 (h.doors.lo + d)), I64 (min 100 (h.doors.hi + d))] = some (encH g) := by rw [hg2, hg1, hg]; rfl
  have hcz : ∀ s : Sl, (encH h).cells.length = 8 := fun _ => rfl
  have hlen : ((tz h l).length : Int) = l.length := by rw [tz_len]
  have hlen2 : ((tz g o).length : Int) = l.length := by rw [tz_len, hol]
  have hne : ((l.length : Int) != (l.length : Int)) = false := by simp
  have h00 : ((0 : Int) != 0) = false := rfl
  obtain ⟨L1, hLL1⟩ : ∃ L1, L1 = (lateE h l).1 := ⟨_, rfl⟩
  obtain ⟨L2, hLL2⟩ : ∃ L2, L2 = (lateE g o).1 := ⟨_, rfl⟩
  rw [← hLL1] at hL1
  rw [← hLL2] at hL2
  rw [← hLL1, ← hLL2] at hlate
  have hL1c : L1 = -1 ∨ 0 ≤ L1 := by
    rcases late_spec hV with ⟨k1, _⟩ | ⟨j, _, _, _, _, _, k4, _⟩
    · left; rw [hLL1, k1]
    · right; rw [hLL1, k4]; dsimp only; omega
  have hcase : l = [] ∨ l ≠ [] := by cases l <;> simp
  rcases hcase with hnil | hnn
  case' inl =>
    have hcv : ∀ i, cwV i l = .sl [] .tight := fun i => by rw [hnil]; rfl
    have hcb : cwB l = [] := by rw [hnil]; rfl
    have hl0 : l.length = 0 := by rw [hnil]; rfl
    have hsh : ∀ db dt, Ab.shift db dt 9 (.sl [] .tight) = .sl [] .tight := fun _ _ => rfl
    have hjn : ∀ (bl : List Blk) (tk : List (Nat × Nat)), joinMem ⟨bl, tk⟩ ⟨[], []⟩ 9 = ⟨bl, tk⟩ := fun bl tk => by simp [joinMem]
    simp only [go_sem, Nat.reduceEqDiff, Nat.reduceAdd, Nat.reduceLT, Nat.reduceLeDiff, reduceIte, and_self, decide_true, decide_false, beq_self_eq_true, HCells, HEta, WB13, snH, hotH, snSs, hotSs, WVH_eq (valid_ok h l), hv, true_and, Nat.zero_add, mnl_min, hm0, mnl_max, hm1, WB20, copied_W l (by omega), hcv, hcb, hsh, hjn, x1, x2, x3, x4, x5, y1, y2, y3]
    refine WL_inv (α := Unit) (fun q e mm => e 1 = encSs l ∧ e 3 = .ptr 0 0 0 ∧ e 7 = .ptr 2 0 0 ∧ e 8 = .sl [] .tight ∧ e 9 = I64 0 ∧ mm = ⟨[.live [encH h] 8, .live [.agg [I64 a, I64 c, I64 w, I64 d]] 4, .live [encH g] 8], []⟩) (fun q => 0) () ?_ ?_
    · simp only [go_sem, Nat.reduceEqDiff, Nat.reduceAdd, Nat.reduceLT, Nat.reduceLeDiff, reduceIte, and_self, decide_true, decide_false, beq_self_eq_true]
    rintro ⟨⟩ e mm ⟨g1, g3, g7, g8, g9, rfl⟩
    have dz : decide ((0 : Int) < ((0 : Nat) : Int)) = false := rfl
    simp only [go_sem, Nat.reduceEqDiff, Nat.reduceAdd, Nat.reduceLT, Nat.reduceLeDiff, reduceIte, and_self, decide_true, decide_false, beq_self_eq_true, g1, g3, g7, g8, g9, dz]
    refine W_frz_of fun e' he m => ?_
    have f1 : e' 1 = encSs l := by
      have h := he 1
      simp only [upd_eq, Nat.reduceEqDiff, reduceIte, g1] at h
      rw [snSs] at h; exact h
    have f3 : e' 3 = .pv (encH h) 0 := by
      have h := he 3
      simp only [upd_eq, Nat.reduceEqDiff, reduceIte, g3] at h
      rw [snap_box rfl, snH] at h; exact h
    have f7 : e' 7 = .pv (encH g) 0 := by
      have h := he 7
      simp only [upd_eq, Nat.reduceEqDiff, reduceIte, g7] at h
      rw [snap_box rfl, snH] at h; exact h
    have f8 : e' 8 = encSs o := by
      have h := he 8
      simp only [upd_eq, Nat.reduceEqDiff, reduceIte, g8] at h
      rw [h, ho, hnil]; rfl
  case' inr =>
    have hie : l.isEmpty = false := by cases l <;> simp at hnn ⊢
    have hcv : ∀ i, cwV i l = .ref i 0 l.length := fun i => by unfold cwV; rw [hie]; rfl
    have hcb : cwB l = [.live (l.map encS) 6] := by unfold cwB; rw [hie]; rfl
    have hsh : ∀ db dt, Ab.shift db dt 9 (.ref 0 0 l.length) = .ref db 0 l.length := fun _ _ => rfl
    have hjn : ∀ (bl : List Blk) (tk : List (Nat × Nat)), joinMem ⟨bl, tk⟩ ⟨[.live (l.map encS) 6], []⟩ 9 = ⟨bl ++ [.live (l.map encS) 6], tk⟩ := fun bl tk => by rw [← hcb]; exact cw_join bl tk l
    simp only [go_sem, Nat.reduceEqDiff, Nat.reduceAdd, Nat.reduceLT, Nat.reduceLeDiff, reduceIte, and_self, decide_true, decide_false, beq_self_eq_true, HCells, HEta, WB13, snH, hotH, snSs, hotSs, WVH_eq (valid_ok h l), hv, true_and, Nat.zero_add, mnl_min, hm0, mnl_max, hm1, WB20, copied_W l (by omega), hcv, hcb, hsh, hjn, x1, x2, x3, x4, x5, y1, y2, y3]
    refine WL_inv (α := Nat) (fun k e mm => e 1 = encSs l ∧ e 3 = .ptr 0 0 0 ∧ e 5 = .ptr 1 0 0 ∧ e 7 = .ptr 3 0 0 ∧ e 8 = .ref 2 0 l.length ∧ e 9 = I64 k ∧ k ≤ l.length ∧ mm = ⟨[.live [encH h] 8, .live [.agg [I64 a, I64 c, I64 w, I64 d]] 4, .live ((ezL a l k).map encS) 6, .live [encH g] 8], []⟩) (fun k => l.length - k) 0 ?_ ?_
    · simp only [go_sem, Nat.reduceEqDiff, Nat.reduceAdd, Nat.reduceLT, Nat.reduceLeDiff, reduceIte, and_self, decide_true, decide_false, beq_self_eq_true]
      exact ⟨trivial, trivial, trivial, trivial, trivial, rfl, Nat.zero_le _, rfl⟩
    rintro k e mm ⟨g1, g3, g5, g7, g8, g9, hkl, rfl⟩
    by_cases hlt : k < l.length
    · obtain ⟨x, hx⟩ : ∃ x, l[k]? = some x := ⟨_, List.getElem?_eq_getElem hlt⟩
      have hS := hV.S x (List.mem_of_getElem? hx)
      have r0 := hS.r0
      have r1 := hS.r1
      have r2 := hS.r2
      have z1 : IntKind.i64.wrap (x.runs.lo - a) = x.runs.lo - a := wrap_i64 _ (by omega) (by omega)
      have z2 : IntKind.i64.wrap (x.runs.hi - a) = x.runs.hi - a := wrap_i64 _ (by omega) (by omega)
      have q1 : ((0 : Int) ≤ (k : Int)) = True := eq_true (by omega)
      have q2 : ((k : Int) < (l.length : Int)) = True := eq_true (by omega)
      have hget : ((ezL a l k).map encS)[k]? = some (encS x) := by rw [List.getElem?_map, ezL_get hx]; rfl
      have hwr : writeCells (encS x) 2 [I64 (max 1 (x.runs.lo - a)), I64 (max 1 (x.runs.hi - a))] = some (encS (ezS a x)) := rfl
      have hset : ((ezL a l k).map encS).set k (encS (ezS a x)) = (ezL a l (k + 1)).map encS := by rw [← ezL_set hx, List.map_set]
      simp only [go_sem, Nat.reduceEqDiff, Nat.reduceAdd, Nat.reduceLT, Nat.reduceLeDiff, reduceIte, and_self, decide_true, decide_false, beq_self_eq_true, g1, g3, g5, g7, g8, g9, dec_lt hlt, q1, q2, Int.toNat_natCast, Nat.zero_add, hget, SCells, z1, z2, hwr, hset, wrap_n1 k (by omega)]
      refine Nx_of (k + 1) (by show l.length - (k + 1) < l.length - k; omega) ?_
      simp only [go_sem, Nat.reduceEqDiff, Nat.reduceAdd, Nat.reduceLT, Nat.reduceLeDiff, reduceIte, and_self, decide_true, decide_false, beq_self_eq_true, g1, g3, g5, g7, g8]
      exact ⟨trivial, trivial, trivial, trivial, trivial, trivial, hlt, trivial⟩
    obtain rfl : k = l.length := by omega
    simp only [go_sem, Nat.reduceEqDiff, Nat.reduceAdd, Nat.reduceLT, Nat.reduceLeDiff, reduceIte, and_self, decide_true, decide_false, beq_self_eq_true, g1, g3, g5, g7, g8, g9, dec_ge (Nat.le_refl l.length)]
    refine W_frz_of fun e' he m => ?_
    have f1 : e' 1 = encSs l := by
      have h := he 1
      simp only [upd_eq, Nat.reduceEqDiff, reduceIte, g1] at h
      rw [snSs] at h; exact h
    have f3 : e' 3 = .pv (encH h) 0 := by
      have h := he 3
      simp only [upd_eq, Nat.reduceEqDiff, reduceIte, g3] at h
      rw [snap_box rfl, snH] at h; exact h
    have f7 : e' 7 = .pv (encH g) 0 := by
      have h := he 7
      simp only [upd_eq, Nat.reduceEqDiff, reduceIte, g7] at h
      rw [snap_box rfl, snH] at h; exact h
    have f8 : e' 8 = encSs o := by
      have h := he 8
      simp only [upd_eq, Nat.reduceEqDiff, reduceIte, g8] at h
      rw [snap_os (o := o) (by rw [ezL_end, ← ho]; rfl) hol] at h; exact h
  all_goals
    clear he
    rcases hL1c with p0 | p0
    · have p1 : (L1 == -1) = true := by rw [p0]; rfl
      have p2 : (L2 != -1) = false := by rw [hlate.1 p0]; rfl
      have p5 : decide (0 ≤ L1) = false := decide_eq_false (by omega)
      simp only [go_sem, Nat.reduceEqDiff, Nat.reduceAdd, Nat.reduceLT, Nat.reduceLeDiff, reduceIte, and_self, decide_true, decide_false, beq_self_eq_true, f1, f3, f7, f8, HCells, HEta, WB16, snH, hotH, snSs, hotSs, WVH_eq hT1, WVH_eq hT2, WB17, WVH_eq hL1, WVH_eq hL2, true_and, h00, Ms_len, Ss_len, hlen, hlen2, hne, p1, p2, p5]
      refine WL_inv (α := Nat) (fun k e mm => e 1 = encSs l ∧ e 10 = encMs (tz h l) ∧ e 12 = encMs (tz g o) ∧ e 20 = I64 k) (fun k => l.length - k) 0 ?_ ?_
      · simp only [go_sem, Nat.reduceEqDiff, Nat.reduceAdd, Nat.reduceLT, Nat.reduceLeDiff, reduceIte, and_self, decide_true, decide_false, beq_self_eq_true, f1]
        exact ⟨trivial, trivial, trivial, rfl⟩
      clear f1 f3 f7 f8 e'
      rintro k e' mm ⟨f1, f10, f12, f20⟩
      by_cases hlt : k < l.length
      case neg => simp only [go_sem, Nat.reduceEqDiff, Nat.reduceAdd, Nat.reduceLT, Nat.reduceLeDiff, reduceIte, and_self, decide_true, decide_false, beq_self_eq_true, f1, f10, f12, f20, Ss_len, dec_ge (Nat.le_of_not_lt hlt), WB15, WVH_eq works_ok, true_and]
      obtain ⟨p, hp⟩ : ∃ p, (tz h l)[k]? = some p := ⟨_, List.getElem?_eq_getElem (by rw [tz_len]; exact hlt)⟩
      obtain ⟨q, hq⟩ : ∃ q, (tz g o)[k]? = some q := ⟨_, List.getElem?_eq_getElem (by rw [tz_len, hol]; exact hlt)⟩
      obtain ⟨t1, t2⟩ := tz_get.1 hp
      obtain ⟨t3, t4⟩ := tz_get.1 hq
      obtain ⟨u1, u2, u3, u4, u5⟩ := hle false k _ _ t3 t1
      obtain ⟨v1, v2, v3, v4, v5⟩ := hle true k _ _ t4 t2
      have n1 : decide (p.2.ready < q.2.ready) = false := decide_eq_false (by omega)
      have n2 : decide (p.1.ready < q.1.ready) = false := decide_eq_false (by omega)
      have n3 : decide (p.2.start < q.2.start) = false := decide_eq_false (by omega)
      have n4 : decide (p.2.enter < q.2.enter) = false := decide_eq_false (by omega)
      have n5 : decide (p.2.seated < q.2.seated) = false := decide_eq_false (by omega)
      have n6 : decide (p.2.empty < q.2.empty) = false := decide_eq_false (by omega)
      simp only [go_sem, Nat.reduceEqDiff, Nat.reduceAdd, Nat.reduceLT, Nat.reduceLeDiff, reduceIte, and_self, decide_true, decide_false, beq_self_eq_true, f1, f10, f12, f20, Ss_len, dec_lt hlt, Ms_idx _ hp, Ms_idx _ hq, MCells, Nat.zero_add, n1, n2, n3, n4, n5, n6, wrap_n1 k (by omega)]
      refine Nx_of (k + 1) (by show l.length - (k + 1) < l.length - k; omega) ?_
      simp only [go_sem, Nat.reduceEqDiff, Nat.reduceAdd, Nat.reduceLT, Nat.reduceLeDiff, reduceIte, and_self, decide_true, decide_false, beq_self_eq_true, f1, f10, f12]
    · have p1 : (L1 == -1) = false := by rw [beq_eq_false_iff_ne]; omega
      have p5 : decide (0 ≤ L1) = true := decide_eq_true p0
      cases p6 : decide (0 ≤ L2)
      · simp only [go_sem, Nat.reduceEqDiff, Nat.reduceAdd, Nat.reduceLT, Nat.reduceLeDiff, reduceIte, and_self, decide_true, decide_false, beq_self_eq_true, f1, f3, f7, f8, HCells, HEta, WB16, snH, hotH, snSs, hotSs, WVH_eq hT1, WVH_eq hT2, WB17, WVH_eq hL1, WVH_eq hL2, true_and, h00, Ms_len, Ss_len, hlen, hlen2, hne, p1, p5, p6]
        refine WL_inv (α := Nat) (fun k e mm => e 1 = encSs l ∧ e 10 = encMs (tz h l) ∧ e 12 = encMs (tz g o) ∧ e 20 = I64 k) (fun k => l.length - k) 0 ?_ ?_
        · simp only [go_sem, Nat.reduceEqDiff, Nat.reduceAdd, Nat.reduceLT, Nat.reduceLeDiff, reduceIte, and_self, decide_true, decide_false, beq_self_eq_true, f1]
          exact ⟨trivial, trivial, trivial, rfl⟩
        clear f1 f3 f7 f8 e'
        rintro k e' mm ⟨f1, f10, f12, f20⟩
        by_cases hlt : k < l.length
        case neg => simp only [go_sem, Nat.reduceEqDiff, Nat.reduceAdd, Nat.reduceLT, Nat.reduceLeDiff, reduceIte, and_self, decide_true, decide_false, beq_self_eq_true, f1, f10, f12, f20, Ss_len, dec_ge (Nat.le_of_not_lt hlt), WB15, WVH_eq works_ok, true_and]
        obtain ⟨p, hp⟩ : ∃ p, (tz h l)[k]? = some p := ⟨_, List.getElem?_eq_getElem (by rw [tz_len]; exact hlt)⟩
        obtain ⟨q, hq⟩ : ∃ q, (tz g o)[k]? = some q := ⟨_, List.getElem?_eq_getElem (by rw [tz_len, hol]; exact hlt)⟩
        obtain ⟨t1, t2⟩ := tz_get.1 hp
        obtain ⟨t3, t4⟩ := tz_get.1 hq
        obtain ⟨u1, u2, u3, u4, u5⟩ := hle false k _ _ t3 t1
        obtain ⟨v1, v2, v3, v4, v5⟩ := hle true k _ _ t4 t2
        have n1 : decide (p.2.ready < q.2.ready) = false := decide_eq_false (by omega)
        have n2 : decide (p.1.ready < q.1.ready) = false := decide_eq_false (by omega)
        have n3 : decide (p.2.start < q.2.start) = false := decide_eq_false (by omega)
        have n4 : decide (p.2.enter < q.2.enter) = false := decide_eq_false (by omega)
        have n5 : decide (p.2.seated < q.2.seated) = false := decide_eq_false (by omega)
        have n6 : decide (p.2.empty < q.2.empty) = false := decide_eq_false (by omega)
        simp only [go_sem, Nat.reduceEqDiff, Nat.reduceAdd, Nat.reduceLT, Nat.reduceLeDiff, reduceIte, and_self, decide_true, decide_false, beq_self_eq_true, f1, f10, f12, f20, Ss_len, dec_lt hlt, Ms_idx _ hp, Ms_idx _ hq, MCells, Nat.zero_add, n1, n2, n3, n4, n5, n6, wrap_n1 k (by omega)]
        refine Nx_of (k + 1) (by show l.length - (k + 1) < l.length - k; omega) ?_
        simp only [go_sem, Nat.reduceEqDiff, Nat.reduceAdd, Nat.reduceLT, Nat.reduceLeDiff, reduceIte, and_self, decide_true, decide_false, beq_self_eq_true, f1, f10, f12]
      · have p7 : decide (L2 < L1) = false := decide_eq_false (by have := hlate.2 p0 (of_decide_eq_true p6); omega)
        simp only [go_sem, Nat.reduceEqDiff, Nat.reduceAdd, Nat.reduceLT, Nat.reduceLeDiff, reduceIte, and_self, decide_true, decide_false, beq_self_eq_true, f1, f3, f7, f8, HCells, HEta, WB16, snH, hotH, snSs, hotSs, WVH_eq hT1, WVH_eq hT2, WB17, WVH_eq hL1, WVH_eq hL2, true_and, h00, Ms_len, Ss_len, hlen, hlen2, hne, p1, p5, p6, p7]
        refine WL_inv (α := Nat) (fun k e mm => e 1 = encSs l ∧ e 10 = encMs (tz h l) ∧ e 12 = encMs (tz g o) ∧ e 20 = I64 k) (fun k => l.length - k) 0 ?_ ?_
        · simp only [go_sem, Nat.reduceEqDiff, Nat.reduceAdd, Nat.reduceLT, Nat.reduceLeDiff, reduceIte, and_self, decide_true, decide_false, beq_self_eq_true, f1]
          exact ⟨trivial, trivial, trivial, rfl⟩
        clear f1 f3 f7 f8 e'
        rintro k e' mm ⟨f1, f10, f12, f20⟩
        by_cases hlt : k < l.length
        case neg => simp only [go_sem, Nat.reduceEqDiff, Nat.reduceAdd, Nat.reduceLT, Nat.reduceLeDiff, reduceIte, and_self, decide_true, decide_false, beq_self_eq_true, f1, f10, f12, f20, Ss_len, dec_ge (Nat.le_of_not_lt hlt), WB15, WVH_eq works_ok, true_and]
        obtain ⟨p, hp⟩ : ∃ p, (tz h l)[k]? = some p := ⟨_, List.getElem?_eq_getElem (by rw [tz_len]; exact hlt)⟩
        obtain ⟨q, hq⟩ : ∃ q, (tz g o)[k]? = some q := ⟨_, List.getElem?_eq_getElem (by rw [tz_len, hol]; exact hlt)⟩
        obtain ⟨t1, t2⟩ := tz_get.1 hp
        obtain ⟨t3, t4⟩ := tz_get.1 hq
        obtain ⟨u1, u2, u3, u4, u5⟩ := hle false k _ _ t3 t1
        obtain ⟨v1, v2, v3, v4, v5⟩ := hle true k _ _ t4 t2
        have n1 : decide (p.2.ready < q.2.ready) = false := decide_eq_false (by omega)
        have n2 : decide (p.1.ready < q.1.ready) = false := decide_eq_false (by omega)
        have n3 : decide (p.2.start < q.2.start) = false := decide_eq_false (by omega)
        have n4 : decide (p.2.enter < q.2.enter) = false := decide_eq_false (by omega)
        have n5 : decide (p.2.seated < q.2.seated) = false := decide_eq_false (by omega)
        have n6 : decide (p.2.empty < q.2.empty) = false := decide_eq_false (by omega)
        simp only [go_sem, Nat.reduceEqDiff, Nat.reduceAdd, Nat.reduceLT, Nat.reduceLeDiff, reduceIte, and_self, decide_true, decide_false, beq_self_eq_true, f1, f10, f12, f20, Ss_len, dec_lt hlt, Ms_idx _ hp, Ms_idx _ hq, MCells, Nat.zero_add, n1, n2, n3, n4, n5, n6, wrap_n1 k (by omega)]
        refine Nx_of (k + 1) (by show l.length - (k + 1) < l.length - k; omega) ?_
        simp only [go_sem, Nat.reduceEqDiff, Nat.reduceAdd, Nat.reduceLT, Nat.reduceLeDiff, reduceIte, and_self, decide_true, decide_false, beq_self_eq_true, f1, f10, f12]
end Go.Ab.T
end
